/- The walk of the exact law of AddConstraints (no claim of its own). Conditions: as each theorem states. -/
import Derived.Test.YtfcmhnbofoohmaaAddN
import Derived.Test.YtfcmhnbofoohmaaMarkC
import Derived.Deep.RegionHeld3
import Derived.Deep.DeepCutAuto
import Derived.Test.YtfcmhnbofoohmaaOutA
namespace Go.Proofs.Ytfcmhnbofoohmaa
open Go.ChangeShapes Go.WideShapes Go.ChangeAt Go.RowKit

theorem newbox {w0 W w1 : World} (hb : Below W.heap.size W w1) (hW : W.heap = (w0.alloc (.cells #[.slice none 0 0, .int .i64 0] 24)).heap) :
    w1.cell? ⟨w0.heap.size, 0, none⟩ = some (.slice none 0 0) ∧ w1.cell? ⟨w0.heap.size, 1, none⟩ = some (.int .i64 0) ∧ w1.frozen? ⟨w0.heap.size, 0, none⟩ = false ∧ w1.frozen? ⟨w0.heap.size, 1, none⟩ = false := by
  have hlt : w0.heap.size < W.heap.size := by rw [hW]; simp
  have h := (hb.block w0.heap.size hlt).trans (congrArg (fun h => h[w0.heap.size]?) hW)
  have h2 : w1.heap[w0.heap.size]? = some (.cells #[.slice none 0 0, .int .i64 0] 24) := h.trans (heap_alloc_new w0 _)
  refine ⟨?_, ?_, ?_, ?_⟩ <;> simp [World.cell?, World.frozen?, h2]

set_option maxRecDepth 100000 in
set_option maxHeartbeats 1600000 in
theorem lawAddConstraints_no1 (A A' : Option Addr) (n n' cap cap' : Nat) (bd bd' : Int) (w : World) (hn : 1048576 < n) (hm : n ≤ maxLen) :
    Calls Try.prog 4 #[.agg #[.slice A n cap, .int .i64 bd], .agg #[.slice A' n' cap', .int .i64 bd']] w fun e w' => e = .returned (.bool true) ∧ Below w.heap.size w w' := by
  go_enter Try.func4, Try.ntmps4
  go_wp2_with (go_at_call 16; refine (szConstraint_no _ _ _ _ _ _ (by omega) (by omega) (by omega) hm).mono ?_; rintro e w' ⟨rfl, hb⟩; have HB := Lib.hid (bl_trans (bl_alloc (bl_alloc (Below.refl w.heap.size w) _) _) hb); clear hb)
  go_ret
  exact ⟨rfl, HB.out⟩

set_option maxRecDepth 100000 in
set_option maxHeartbeats 1600000 in
theorem lawAddConstraints_no2 (A A' : Option Addr) (n n' cap cap' : Nat) (bd bd' : Int) (w : World) (hn : n ≤ 1048576) (hn' : 1048576 < n + n') (hm' : n' ≤ maxLen) :
    Calls Try.prog 4 #[.agg #[.slice A n cap, .int .i64 bd], .agg #[.slice A' n' cap', .int .i64 bd']] w fun e w' => e = .returned (.bool true) ∧ Below w.heap.size w w' := by
  have hni : (n : Int) ≤ 1048576 := by omega
  go_enter Try.func4, Try.ntmps4
  go_wp2_with fail
  refine (szConstraint_ok _ _ _ _ _ _ (by omega) (by omega) hni).mono ?_
  rintro e w1 ⟨rfl, hb⟩
  have HB1 := Lib.hid (bl_trans (bl_alloc (bl_alloc (Below.refl w.heap.size w) _) _) hb)
  obtain ⟨hc1, hf1⟩ := bcell hb
  clear hb
  go_wp2_with fail
  refine (szConstraint_no _ _ _ _ _ _ (by omega) (by omega) (by omega) hm').mono ?_
  rintro e w2 ⟨rfl, hb⟩
  have HB2 := Lib.hid (bl_trans HB1.out hb)
  clear hb
  go_wp2
  go_ret
  exact ⟨rfl, HB2.out⟩

set_option maxRecDepth 100000 in
set_option maxHeartbeats 12800000 in
theorem lawAddConstraints_ok (A A' : Option Addr) (n n' cap cap' : Nat) (bd bd' : Int) (c l c' l' : Nat → Int) (N : Nat) (C L : Nat → Int) (BD : Int) (OK : Bool) (w : World) (hnn : n + n' ≤ 1048576) (hN : N ≤ 1048576) (hr : Rd w w.heap.size A n c l) (hr' : Rd w w.heap.size A' n' c' l')
    (hS : ∀ a a' W, Rd W W.heap.size (some a) n c l → Rd W W.heap.size (some a') n' c' l' → Calls Try.prog 17 #[.agg #[.slice (some a) n n, .int .i64 bd], .agg #[.slice (some a') n' n', .int .i64 bd']] W (CRes W N C L BD OK))
    (hI : ∀ a a' W, Rd W W.heap.size (some a) n c l → Rd W W.heap.size (some a') n' c' l' → Calls Try.prog 19 #[.agg #[.slice (some a) n n, .int .i64 bd], .agg #[.slice (some a') n' n', .int .i64 bd']] W (CRes W N C L BD OK)) :
    Calls Try.prog 4 #[.agg #[.slice A n cap, .int .i64 bd], .agg #[.slice A' n' cap', .int .i64 bd']] w fun e w' => e = .returned (.bool true) ∧ Below w.heap.size w w' := by
  have hni : (n : Int) ≤ 1048576 := by omega
  have hn : n ≤ 1048576 := by omega
  have hn' : n' ≤ 1048576 := by omega
  have hni' : (n' : Int) ≤ 1048576 - (n : Int) := by omega
  have HS := Lib.hid hS
  have HI := Lib.hid hI
  clear hS hI
  go_enter Try.func4, Try.ntmps4
  go_wp2_with fail
  refine (szConstraint_ok _ _ _ _ _ _ (by omega) (by omega) hni).mono ?_
  rintro e w1 ⟨rfl, hb⟩
  have HB1 := Lib.hid (bl_trans (bl_alloc (bl_alloc (Below.refl w.heap.size w) _) _) hb)
  have a0 : w1.cell? ⟨w.heap.size, 0, none⟩ = some (.slice A n cap) := kc hb (by go_simp)
  have a1 : w1.cell? ⟨w.heap.size, 1, none⟩ = some (.int .i64 bd) := kc hb (by go_simp)
  have b0 : w1.cell? ⟨w.heap.size + 1, 0, none⟩ = some (.slice A' n' cap') := kc hb (by go_simp)
  have b1 : w1.cell? ⟨w.heap.size + 1, 1, none⟩ = some (.int .i64 bd') := kc hb (by go_simp)
  clear hb
  go_wp2_with fail
  refine (szConstraint_ok _ _ _ _ _ _ (by omega) (by omega) hni').mono ?_
  rintro e w2 ⟨rfl, hb⟩
  have HB2 := Lib.hid (bl_trans HB1.out hb)
  replace a0 := kc hb a0
  replace a1 := kc hb a1
  replace b0 := kc hb b0
  replace b1 := kc hb b1
  clear hb HB1
  go_wp2_with fail
  have zw2 : w.heap.size + 1 < w2.heap.size := World.block_lt_of_cell? w2 _ b0
  have yw2 : w.heap.size < w2.heap.size := Nat.lt_of_succ_lt zw2
  have nw2a : ¬ w.heap.size = w2.heap.size := Nat.ne_of_lt yw2
  have nw2b : ¬ w2.heap.size = w.heap.size := Nat.ne_of_gt yw2
  have nw2c : ¬ w.heap.size + 1 = w2.heap.size := Nat.ne_of_lt zw2
  have nw2d : ¬ w2.heap.size = w.heap.size + 1 := Nat.ne_of_gt zw2
  go_cut [6, 7] (fun s6 s7 wx => ∃ (H : Nat) (Aw : Option Addr) (capw : Nat), s6 = .pointer (some ⟨H, 0, none⟩) ∧ s7 = .bool OK ∧ w2.heap.size ≤ H ∧ wx.cell? ⟨H, 0, none⟩ = some (.slice Aw N capw) ∧ wx.cell? ⟨H, 1, none⟩ = some (.int .i64 BD) ∧ Frs wx w2.heap.size Aw N C L ∧ Below w2.heap.size w2 wx)
  case first =>
    clear hni
    go_region_held3 (fun w' => w'.cell? ⟨w.heap.size, 0, none⟩ = some (.slice A n cap) ∧ w'.cell? ⟨w.heap.size, 1, none⟩ = some (.int .i64 bd) ∧ w'.cell? ⟨w.heap.size + 1, 0, none⟩ = some (.slice A' n' cap') ∧ w'.cell? ⟨w.heap.size + 1, 1, none⟩ = some (.int .i64 bd')) (go_keep)
      (first
        | (go_at_call_of 18 (Value.agg #[.slice A n cap, .int .i64 bd]); refine (toConstraint_any _ _ _ _ c l _ hn (hr.later (bl_trans HB2.out (by repeat (first | exact Below.refl _ _ | refine bl_alloc ?_ _ | refine Below.drew ?_))))).mono ?_; rintro e u3 ⟨G3, rfl, hG3, hown3, hb⟩; have hbx : Below w2.heap.size w2 u3 := bl_trans (by repeat (first | exact Below.refl _ _ | refine bl_alloc ?_ _ | refine Below.drew ?_)) hb; (try (have hnb := newbox (w0 := w2) hb rfl; have v0 := hnb.1; have v1 := hnb.2.1; have g0 := hnb.2.2.1; have g1 := hnb.2.2.2; clear hnb)); have HB3 := Lib.hid hbx; have a0 := kc hbx a0; have a1 := kc hbx a1; have b0 := kc hbx b0; have b1 := kc hbx b1; have zu3 : w.heap.size + 1 < u3.heap.size := World.block_lt_of_cell? u3 _ b0; have yu3 : w.heap.size < u3.heap.size := Nat.lt_of_succ_lt zu3; have nu3a : ¬ w.heap.size = u3.heap.size := Nat.ne_of_lt yu3; have nu3b : ¬ u3.heap.size = w.heap.size := Nat.ne_of_gt yu3; have nu3c : ¬ w.heap.size + 1 = u3.heap.size := Nat.ne_of_lt zu3; have nu3d : ¬ u3.heap.size = w.heap.size + 1 := Nat.ne_of_gt zu3; clear hb hbx)
        | (go_at_call_of 18 (Value.agg #[.slice A' n' cap', .int .i64 bd']); refine (toConstraint_any _ _ _ _ c' l' _ hn' (hr'.later (bl_trans HB2.out (bl_trans HB3.out (by repeat (first | exact Below.refl _ _ | refine bl_alloc ?_ _ | refine Below.drew ?_)))))).mono ?_; rintro e u4 ⟨G4, rfl, hG4, hown4, hb⟩; have hbx : Below u3.heap.size u3 u4 := bl_trans (by repeat (first | exact Below.refl _ _ | refine bl_alloc ?_ _ | refine Below.drew ?_)) hb; (try (have zb := World.block_lt_of_cell? _ _ v0; have g0 := kf hbx (World.block_lt_of_cell? _ _ v0) g0; have g1 := kf hbx (World.block_lt_of_cell? _ _ v1) g1; have v0 := kc hbx v0; have v1 := kc hbx v1)); (try (have hnb := newbox (w0 := u3) hb rfl; have v0 := hnb.1; have v1 := hnb.2.1; have g0 := hnb.2.2.1; have g1 := hnb.2.2.2; clear hnb)); have HB4 := Lib.hid (bl_trans HB3.out hbx); have hown3' := hown3.below hbx hown3.lt; have a0 := kc hbx a0; have a1 := kc hbx a1; have b0 := kc hbx b0; have b1 := kc hbx b1; have zu4 : w.heap.size + 1 < u4.heap.size := World.block_lt_of_cell? u4 _ b0; have yu4 : w.heap.size < u4.heap.size := Nat.lt_of_succ_lt zu4; have nu4a : ¬ w.heap.size = u4.heap.size := Nat.ne_of_lt yu4; have nu4b : ¬ u4.heap.size = w.heap.size := Nat.ne_of_gt yu4; have nu4c : ¬ w.heap.size + 1 = u4.heap.size := Nat.ne_of_lt zu4; have nu4d : ¬ u4.heap.size = w.heap.size + 1 := Nat.ne_of_gt zu4; clear hb hbx)
        | (go_at_call 17; refine (HS.out _ _ _ (hown3'.below (by repeat (first | exact Below.refl _ _ | refine bl_alloc ?_ _ | refine Below.drew ?_)) hown3'.lt).rdAt (hown4.below (by repeat (first | exact Below.refl _ _ | refine bl_alloc ?_ _ | refine Below.drew ?_)) hown4.lt).rdAt).mono ?_; rintro e u5 ⟨Aw, capw, rfl, hfw, hb⟩; have hbx : Below u4.heap.size u4 u5 := bl_trans (by repeat (first | exact Below.refl _ _ | refine bl_alloc ?_ _ | refine Below.drew ?_)) hb; (try (have zb := World.block_lt_of_cell? _ _ v0; have g0 := kf hbx (World.block_lt_of_cell? _ _ v0) g0; have g1 := kf hbx (World.block_lt_of_cell? _ _ v1) g1; have v0 := kc hbx v0; have v1 := kc hbx v1)); (try (have hnb := newbox (w0 := u4) hb rfl; have v0 := hnb.1; have v1 := hnb.2.1; have g0 := hnb.2.2.1; have g1 := hnb.2.2.2; clear hnb)); have HB5 := Lib.hid (bl_trans HB4.out hbx); have FW := Lib.hid hfw; have a0 := kc hbx a0; have a1 := kc hbx a1; have b0 := kc hbx b0; have b1 := kc hbx b1; have zu5 : w.heap.size + 1 < u5.heap.size := World.block_lt_of_cell? u5 _ b0; have yu5 : w.heap.size < u5.heap.size := Nat.lt_of_succ_lt zu5; have nu5a : ¬ w.heap.size = u5.heap.size := Nat.ne_of_lt yu5; have nu5b : ¬ u5.heap.size = w.heap.size := Nat.ne_of_gt yu5; have nu5c : ¬ w.heap.size + 1 = u5.heap.size := Nat.ne_of_lt zu5; have nu5d : ¬ u5.heap.size = w.heap.size + 1 := Nat.ne_of_gt zu5; clear hb hbx hfw))
    all_goals go_wp2_with fail
    all_goals go_meet
    · exact ⟨u5.heap.size, Aw, capw, rfl, rfl, HB5.out.size, by go_simp, by go_simp, (FW.out.below (bl_alloc (Below.refl _ _) _)).more HB4.out.size, HB5.out.alloc HB5.out.size _⟩
    · exact ⟨u4.heap.size, Aw, capw, rfl, rfl, HB4.out.size, by go_simp, by go_simp, ((FW.out.far rfl (by simp) _).far rfl (by simp) _).more (Nat.le_trans HB4.out.size (by simp)), (HB5.out.setCell HB4.out.size _).setCell HB4.out.size _⟩
    · exact ⟨u3.heap.size, Aw, capw, rfl, rfl, HB3.out.size, by go_simp, by go_simp, ((FW.out.far rfl zb _).far rfl zb _).more HB4.out.size, (HB5.out.setCell HB3.out.size _).setCell HB3.out.size _⟩
    · exact ⟨w2.heap.size, Aw, capw, rfl, rfl, Nat.le_refl _, by go_simp, by go_simp, ((FW.out.far rfl zb _).far rfl zb _).more HB4.out.size, (HB5.out.setCell (Nat.le_refl _) _).setCell (Nat.le_refl _) _⟩
  case rest =>
  obtain ⟨H, Aw, capw, rfl, rfl, zH0, v0, v1, hfw, hb⟩ := hcut
  have HB5 := Lib.hid (bl_trans HB2.out hb)
  have zH : w.heap.size + 1 < H := Nat.lt_of_lt_of_le zw2 zH0
  have FW := Lib.hid (hfw.more (B' := w.heap.size + 1) (Nat.le_of_lt zw2)).two
  replace a0 := kc hb a0
  replace a1 := kc hb a1
  replace b0 := kc hb b0
  replace b1 := kc hb b1
  have zH1 : H < wc.heap.size := World.block_lt_of_cell? wc _ v0
  have z5 : w.heap.size + 1 < wc.heap.size := by omega
  have z5' : w.heap.size < wc.heap.size := by omega
  clear hb hfw HS HB2
  generalize hwc : wc = w5 at *
  clear hwc
  go_wp2_with fail
  refine (toConstraint_any _ _ _ _ c l _ hn (hr.later HB5.out)).mono ?_
  rintro e w6 ⟨G6, rfl, hG6, hown6, hb⟩
  have HB6 := Lib.hid (bl_trans HB5.out hb)
  have FX := Lib.hid (Frs.two (lo := w5.heap.size) (.inr ⟨G6, rfl, hG6, hown6.u⟩))
  have fw := FW.out.below hb
  replace a0 := kc hb a0
  replace a1 := kc hb a1
  replace b0 := kc hb b0
  replace b1 := kc hb b1
  replace v0 := kc hb v0
  replace v1 := kc hb v1
  have z6a : H < w6.heap.size := World.block_lt_of_cell? w6 _ v0
  have z6b : w5.heap.size ≤ w6.heap.size := hb.size
  have z6' : w.heap.size < w6.heap.size := by omega
  have z6'' : w.heap.size + 1 < w6.heap.size := by omega
  clear hb HB5 FW hG6 hown6
  have FW := Lib.hid fw
  clear fw
  go_wp2_with fail
  have x0 : (w6.alloc (.cells #[.slice (some ⟨G6, 0, none⟩) n n, .int .i64 bd] 24)).cell? ⟨w6.heap.size, 0, none⟩ = some (.slice (some ⟨G6, 0, none⟩) n n) := by go_simp
  have x1 : (w6.alloc (.cells #[.slice (some ⟨G6, 0, none⟩) n n, .int .i64 bd] 24)).cell? ⟨w6.heap.size, 1, none⟩ = some (.int .i64 bd) := by go_simp
  refine (toConstraint_any _ _ _ _ c' l' _ hn' (hr'.later (bl_alloc HB6.out _))).mono ?_
  rintro e w7 ⟨G7, rfl, hG7, hown7, hb1⟩
  have hb := bl_trans (bl_alloc (Below.refl w6.heap.size w6) _) hb1
  have HB7 := Lib.hid (bl_trans HB6.out hb)
  have FY := Lib.hid (Frs.two (lo := w6.heap.size + 1) (.inr ⟨G7, rfl, by simpa using hG7, hown7.u⟩))
  have fw := FW.out.below hb
  have fx := FX.out.below hb
  replace a0 := kc hb a0
  replace a1 := kc hb a1
  replace b0 := kc hb b0
  replace b1 := kc hb b1
  replace v0 := kc hb v0
  replace v1 := kc hb v1
  replace x0 := kc hb1 x0
  replace x1 := kc hb1 x1
  have z7 : w6.heap.size < w7.heap.size := World.block_lt_of_cell? w7 _ x0
  have z7' : w.heap.size < w7.heap.size := by omega
  have z7'' : w.heap.size + 1 < w7.heap.size := by omega
  have z7c : H < w7.heap.size := by omega
  clear hb hb1 HB6 FW FX hG7 hown7
  have FW := Lib.hid fw
  have FX := Lib.hid fx
  clear fw fx
  go_wp2_with fail
  have y0 : (w7.alloc (.cells #[.slice (some ⟨G7, 0, none⟩) n' n', .int .i64 bd'] 24)).cell? ⟨w7.heap.size, 0, none⟩ = some (.slice (some ⟨G7, 0, none⟩) n' n') := by go_simp
  have y1 : (w7.alloc (.cells #[.slice (some ⟨G7, 0, none⟩) n' n', .int .i64 bd'] 24)).cell? ⟨w7.heap.size, 1, none⟩ = some (.int .i64 bd') := by go_simp
  refine (HI.out _ _ _ (FX.out.rdAt.later (bl_alloc (Below.refl _ _) _)) (FY.out.rdAt.later (bl_alloc (Below.refl _ _) _))).mono ?_
  rintro e w8 ⟨Ag, capg, rfl, hfg, hb1⟩
  have hb := bl_trans (bl_alloc (Below.refl w7.heap.size w7) _) hb1
  have HB8 := Lib.hid (bl_trans HB7.out hb)
  have fg : Fr2 w8 (w7.heap.size + 1) w8.heap.size Ag N C L := Frs.two (hfg.more (by simp))
  have fw := FW.out.below hb
  have fx := FX.out.below hb
  have fy := FY.out.below hb
  replace a0 := kc hb a0
  replace a1 := kc hb a1
  replace b0 := kc hb b0
  replace b1 := kc hb b1
  replace v0 := kc hb v0
  replace v1 := kc hb v1
  replace x0 := kc hb x0
  replace x1 := kc hb x1
  replace y0 := kc hb1 y0
  replace y1 := kc hb1 y1
  have z8 : w7.heap.size < w8.heap.size := World.block_lt_of_cell? w8 _ y0
  have z8' : w.heap.size < w8.heap.size := by omega
  have z8'' : w.heap.size + 1 < w8.heap.size := by omega
  have z8a : H < w8.heap.size := by omega
  have z8b : w6.heap.size < w8.heap.size := by omega
  clear hb hb1 HB7 FW FX FY hfg
  have FW := Lib.hid fw
  have FX := Lib.hid fx
  have FY := Lib.hid fy
  have FG := Lib.hid fg
  clear fw fx fy fg
  go_wp2_with fail
  have t0 : (w8.alloc (.cells #[.slice Ag N capg, .int .i64 BD] 24)).cell? ⟨w8.heap.size, 0, none⟩ = some (.slice Ag N capg) := by go_simp
  have t1 : (w8.alloc (.cells #[.slice Ag N capg, .int .i64 BD] 24)).cell? ⟨w8.heap.size, 1, none⟩ = some (.int .i64 BD) := by go_simp
  refine (eqConstraint_same _ _ _ _ _ _ _ C L C L _ hN (FG.out.rdAt.later (bl_alloc (Below.refl _ _) _)) (FW.out.rdAt.later (bl_alloc (Below.refl _ _) _))).mono ?_
  rintro e w9 ⟨rfl, hb1⟩
  have hb := bl_trans (bl_alloc (Below.refl w8.heap.size w8) _) hb1
  have HB9 := Lib.hid (bl_trans HB8.out hb)
  have fw := FW.out.below hb
  have fx := FX.out.below hb
  have fy := FY.out.below hb
  have fg := FG.out.below hb
  replace a0 := kc hb a0
  replace a1 := kc hb a1
  replace b0 := kc hb b0
  replace b1 := kc hb b1
  replace v0 := kc hb v0
  replace v1 := kc hb v1
  replace x0 := kc hb x0
  replace x1 := kc hb x1
  replace y0 := kc hb y0
  replace y1 := kc hb y1
  replace t0 := kc hb1 t0
  replace t1 := kc hb1 t1
  clear hb hb1 HB8 FW FX FY FG
  have FW := Lib.hid fw
  have FX := Lib.hid fx
  have FY := Lib.hid fy
  have FG := Lib.hid fg
  clear fw fx fy fg
  rw [ceq_refl]
  go_wp2_with fail
  go_region_held3 (fun w' => w'.cell? ⟨w.heap.size, 0, none⟩ = some (.slice A n cap) ∧ w'.cell? ⟨w.heap.size, 1, none⟩ = some (.int .i64 bd) ∧ w'.cell? ⟨w6.heap.size, 0, none⟩ = some (.slice (some ⟨G6, 0, none⟩) n n) ∧ w'.cell? ⟨w6.heap.size, 1, none⟩ = some (.int .i64 bd)) (go_keep)
    (first
      | (go_at_call 18; refine (toConstraint_any _ _ _ _ c l _ hn (hr.later HB9.out.drew)).mono ?_; rintro e w10 ⟨Gw10, rfl, hGw10, hownw10, hb⟩; have HBw10 := Lib.hid (bl_trans HB9.out.drew hb); have FW1 := Lib.hid (Fr2.below (w := w9.drew) FW.out hb); have FX1 := Lib.hid (Fr2.below (w := w9.drew) FX.out hb); have FY1 := Lib.hid (Fr2.below (w := w9.drew) FY.out hb); have FG1 := Lib.hid (Fr2.below (w := w9.drew) FG.out hb); replace a0 := kc hb a0; replace a1 := kc hb a1; replace b0 := kc hb b0; replace b1 := kc hb b1; replace v0 := kc hb v0; replace v1 := kc hb v1; replace x0 := kc hb x0; replace x1 := kc hb x1; replace y0 := kc hb y0; replace y1 := kc hb y1; replace t0 := kc hb t0; replace t1 := kc hb t1; clear hb)
      | (go_at_call 13; refine (eqConstraint_same _ _ _ _ _ _ _ c l c l _ hn FX1.out.rdAt hownw10.rdAt).mono ?_; rintro e w11 ⟨rfl, hb⟩; have HBw11 := Lib.hid (bl_trans HBw10.out hb); have FW2 := Lib.hid (FW1.out.below hb); have FX2 := Lib.hid (FX1.out.below hb); have FY2 := Lib.hid (FY1.out.below hb); have FG2 := Lib.hid (FG1.out.below hb); replace a0 := kc hb a0; replace a1 := kc hb a1; replace b0 := kc hb b0; replace b1 := kc hb b1; replace v0 := kc hb v0; replace v1 := kc hb v1; replace x0 := kc hb x0; replace x1 := kc hb x1; replace y0 := kc hb y0; replace y1 := kc hb y1; replace t0 := kc hb t0; replace t1 := kc hb t1; clear hb; rw [ceq_refl]))
  clear FW FX FY FG FW1 FX1 FY1 FG1 HB9 HBw10 hGw10 hownw10
  have FW := Lib.hid FW2.out
  have FX := Lib.hid FX2.out
  have FY := Lib.hid FY2.out
  have FG := Lib.hid FG2.out
  clear FW2 FX2 FY2 FG2
  go_wp2_with fail
  go_region_held3 (fun w' => w'.cell? ⟨w.heap.size + 1, 0, none⟩ = some (.slice A' n' cap') ∧ w'.cell? ⟨w.heap.size + 1, 1, none⟩ = some (.int .i64 bd') ∧ w'.cell? ⟨w7.heap.size, 0, none⟩ = some (.slice (some ⟨G7, 0, none⟩) n' n') ∧ w'.cell? ⟨w7.heap.size, 1, none⟩ = some (.int .i64 bd')) (go_keep)
    (first
      | (go_at_call 18; refine (toConstraint_any _ _ _ _ c' l' _ hn' (hr'.later HBw11.out.drew)).mono ?_; rintro e w12 ⟨Gw12, rfl, hGw12, hownw12, hb⟩; have HBw12 := Lib.hid (bl_trans HBw11.out.drew hb); have FW1 := Lib.hid (Fr2.below (w := w11.drew) FW.out hb); have FX1 := Lib.hid (Fr2.below (w := w11.drew) FX.out hb); have FY1 := Lib.hid (Fr2.below (w := w11.drew) FY.out hb); have FG1 := Lib.hid (Fr2.below (w := w11.drew) FG.out hb); replace a0 := kc hb a0; replace a1 := kc hb a1; replace b0 := kc hb b0; replace b1 := kc hb b1; replace v0 := kc hb v0; replace v1 := kc hb v1; replace x0 := kc hb x0; replace x1 := kc hb x1; replace y0 := kc hb y0; replace y1 := kc hb y1; replace t0 := kc hb t0; replace t1 := kc hb t1; clear hb)
      | (go_at_call 13; refine (eqConstraint_same _ _ _ _ _ _ _ c' l' c' l' _ hn' FY1.out.rdAt hownw12.rdAt).mono ?_; rintro e w13 ⟨rfl, hb⟩; have HBw13 := Lib.hid (bl_trans HBw12.out hb); have FW2 := Lib.hid (FW1.out.below hb); have FX2 := Lib.hid (FX1.out.below hb); have FY2 := Lib.hid (FY1.out.below hb); have FG2 := Lib.hid (FG1.out.below hb); replace a0 := kc hb a0; replace a1 := kc hb a1; replace b0 := kc hb b0; replace b1 := kc hb b1; replace v0 := kc hb v0; replace v1 := kc hb v1; replace x0 := kc hb x0; replace x1 := kc hb x1; replace y0 := kc hb y0; replace y1 := kc hb y1; replace t0 := kc hb t0; replace t1 := kc hb t1; clear hb; rw [ceq_refl]))
  clear FW FX FY FG FW1 FX1 FY1 FG1 HBw11 HBw12 hGw12 hownw12
  have FW := Lib.hid FW2.out
  have FX := Lib.hid FX2.out
  have FY := Lib.hid FY2.out
  have FG := Lib.hid FG2.out
  clear FW2 FX2 FY2 FG2
  go_wp2_with fail
  refine (markConstraint_any4 _ _ _ _ _ c l 1 _ hn (by omega) (by omega) FX.out.one).mono ?_
  rintro e w14 ⟨rfl, hfm, ho⟩
  have HBw14 := Lib.hid (ho.bel FX.out HBw13.out (by omega))
  have fw := FW.out.only ho (FX.out.apart (.inr (by omega)))
  have fy := FY.out.only ho (FX.out.apart (.inl (by omega)))
  have fg := FG.out.only ho (FX.out.apart (.inl (by omega)))
  replace a0 := FX.out.cell ho (.inl (by show w.heap.size < _; omega)) a0
  replace a1 := FX.out.cell ho (.inl (by show w.heap.size < _; omega)) a1
  replace b0 := FX.out.cell ho (.inl (by show w.heap.size + 1 < _; omega)) b0
  replace b1 := FX.out.cell ho (.inl (by show w.heap.size + 1 < _; omega)) b1
  replace v0 := FX.out.cell ho (.inl (by show H < _; omega)) v0
  replace v1 := FX.out.cell ho (.inl (by show H < _; omega)) v1
  replace x0 := FX.out.cell ho (.inr (by show _ ≤ w6.heap.size; omega)) x0
  replace x1 := FX.out.cell ho (.inr (by show _ ≤ w6.heap.size; omega)) x1
  replace y0 := FX.out.cell ho (.inr (by show _ ≤ w7.heap.size; omega)) y0
  replace y1 := FX.out.cell ho (.inr (by show _ ≤ w7.heap.size; omega)) y1
  replace t0 := FX.out.cell ho (.inr (by show _ ≤ w8.heap.size; omega)) t0
  replace t1 := FX.out.cell ho (.inr (by show _ ≤ w8.heap.size; omega)) t1
  clear ho hfm HBw13 FX x0 x1 FW FY FG
  have FW := Lib.hid fw
  have FY := Lib.hid fy
  have FG := Lib.hid fg
  clear fw fy fg
  have hk1 : ¬ ((1 : Int) + 2 * (n : Int) < 0) := by omega
  go_wp2_with fail
  refine (markConstraint_any4 _ _ _ _ _ c' l' (1 + 2 * (n : Int)) _ hn' (by omega) (by omega) FY.out.one).mono ?_
  rintro e w15 ⟨rfl, hfm, ho⟩
  have HBw15 := Lib.hid (ho.bel FY.out HBw14.out (by omega))
  have fw := FW.out.only ho (FY.out.apart (.inr (by omega)))
  have fg := FG.out.only ho (FY.out.apart (.inl (by omega)))
  replace a0 := FY.out.cell ho (.inl (by show w.heap.size < _; omega)) a0
  replace a1 := FY.out.cell ho (.inl (by show w.heap.size < _; omega)) a1
  replace b0 := FY.out.cell ho (.inl (by show w.heap.size + 1 < _; omega)) b0
  replace b1 := FY.out.cell ho (.inl (by show w.heap.size + 1 < _; omega)) b1
  replace v0 := FY.out.cell ho (.inl (by show H < _; omega)) v0
  replace v1 := FY.out.cell ho (.inl (by show H < _; omega)) v1
  replace y0 := FY.out.cell ho (.inr (by show _ ≤ w7.heap.size; omega)) y0
  replace y1 := FY.out.cell ho (.inr (by show _ ≤ w7.heap.size; omega)) y1
  replace t0 := FY.out.cell ho (.inr (by show _ ≤ w8.heap.size; omega)) t0
  replace t1 := FY.out.cell ho (.inr (by show _ ≤ w8.heap.size; omega)) t1
  clear ho hfm HBw14 FY y0 y1 FW FG
  have FW := Lib.hid fw
  have FG := Lib.hid fg
  clear fw fg
  have hk2 : ¬ ((1 : Int) + 2 * (n : Int) + 2 * (n' : Int) < 0) := by omega
  go_wp2_with fail
  refine (eqConstraint_same _ _ _ _ _ _ _ C L C L _ hN FG.out.rdAt FW.out.rdAt).mono ?_
  rintro e w16 ⟨rfl, hb⟩
  have HBw16 := Lib.hid (bl_trans HBw15.out hb)
  have fw := FW.out.below hb
  have fg := FG.out.below hb
  replace a0 := kc hb a0
  replace a1 := kc hb a1
  replace b0 := kc hb b0
  replace b1 := kc hb b1
  replace v0 := kc hb v0
  replace v1 := kc hb v1
  replace t0 := kc hb t0
  replace t1 := kc hb t1
  clear hb HBw15 FW FG
  have FW := Lib.hid fw
  have FG := Lib.hid fg
  clear fw fg
  rw [ceq_refl]
  go_wp2_with fail
  refine (markConstraint_any _ _ _ _ _ C L 1 _ hN (by omega) (by omega) FG.out.one).mono ?_
  rintro e w17 ⟨rfl, hfg, ho⟩
  have HBw17 := Lib.hid (ho.bel FG.out HBw16.out (by omega))
  have fw := FW.out.only ho (FG.out.apart (.inr (by omega)))
  have FM := Lib.hid hfg
  replace a0 := FG.out.cell ho (.inl (by show w.heap.size < _; omega)) a0
  replace a1 := FG.out.cell ho (.inl (by show w.heap.size < _; omega)) a1
  replace b0 := FG.out.cell ho (.inl (by show w.heap.size + 1 < _; omega)) b0
  replace b1 := FG.out.cell ho (.inl (by show w.heap.size + 1 < _; omega)) b1
  replace v0 := FG.out.cell ho (.inl (by show H < _; omega)) v0
  replace v1 := FG.out.cell ho (.inl (by show H < _; omega)) v1
  replace t0 := FG.out.cell ho (.inr (by show _ ≤ w8.heap.size; omega)) t0
  replace t1 := FG.out.cell ho (.inr (by show _ ≤ w8.heap.size; omega)) t1
  clear ho hfg HBw16 FW FG hk1 hk2
  have FW := Lib.hid fw
  clear fw
  go_wp2_with fail
  refine (heldConstraint_any _ _ _ _ _ 1 _ hN (by omega) (by omega) FM.out).mono ?_
  rintro e w18 ⟨rfl, hb⟩
  have HBw18 := Lib.hid (bl_trans HBw17.out hb)
  have fw := FW.out.below hb
  have fm := FM.out.below hb
  replace a0 := kc hb a0
  replace a1 := kc hb a1
  replace b0 := kc hb b0
  replace b1 := kc hb b1
  replace v0 := kc hb v0
  replace v1 := kc hb v1
  replace t0 := kc hb t0
  replace t1 := kc hb t1
  clear hb HBw17 FW FM
  have FW := Lib.hid fw
  have FM := Lib.hid fm
  clear fw fm
  have hk1 : ¬ ((1 : Int) + 2 * (N : Int) < 0) := by omega
  go_wp2_with fail
  have zw18 : w.heap.size + 1 < w18.heap.size := World.block_lt_of_cell? w18 _ b0
  have yw18 : w.heap.size < w18.heap.size := Nat.lt_of_succ_lt zw18
  have nw18a : ¬ w.heap.size = w18.heap.size := Nat.ne_of_lt yw18
  have nw18b : ¬ w18.heap.size = w.heap.size := Nat.ne_of_gt yw18
  have nw18c : ¬ w.heap.size + 1 = w18.heap.size := Nat.ne_of_lt zw18
  have nw18d : ¬ w18.heap.size = w.heap.size + 1 := Nat.ne_of_gt zw18
  go_cut [15, 16] (fun s6 s7 wx => ∃ (H : Nat) (Aw : Option Addr) (capw : Nat), s6 = .pointer (some ⟨H, 0, none⟩) ∧ s7 = .bool OK ∧ w18.heap.size ≤ H ∧ wx.cell? ⟨H, 0, none⟩ = some (.slice Aw N capw) ∧ wx.cell? ⟨H, 1, none⟩ = some (.int .i64 BD) ∧ Frs wx w18.heap.size Aw N C L ∧ Below w18.heap.size w18 wx)
  case first =>
    clear v0 v1 t0 t1
    go_region_held3 (fun w' => w'.cell? ⟨w.heap.size, 0, none⟩ = some (.slice A n cap) ∧ w'.cell? ⟨w.heap.size, 1, none⟩ = some (.int .i64 bd) ∧ w'.cell? ⟨w.heap.size + 1, 0, none⟩ = some (.slice A' n' cap') ∧ w'.cell? ⟨w.heap.size + 1, 1, none⟩ = some (.int .i64 bd')) (go_keep)
      (first
        | (go_at_call_of 18 (Value.agg #[.slice A n cap, .int .i64 bd]); refine (toConstraint_any _ _ _ _ c l _ hn (hr.later (bl_trans HBw18.out (by repeat (first | exact Below.refl _ _ | refine bl_alloc ?_ _ | refine Below.drew ?_))))).mono ?_; rintro e u3 ⟨G3, rfl, hG3, hown3, hb⟩; have hbx : Below w18.heap.size w18 u3 := bl_trans (by repeat (first | exact Below.refl _ _ | refine bl_alloc ?_ _ | refine Below.drew ?_)) hb; (try (have hnb := newbox (w0 := w18) hb rfl; have v0 := hnb.1; have v1 := hnb.2.1; have g0 := hnb.2.2.1; have g1 := hnb.2.2.2; clear hnb)); have HB3 := Lib.hid hbx; have a0 := kc hbx a0; have a1 := kc hbx a1; have b0 := kc hbx b0; have b1 := kc hbx b1; have zu3 : w.heap.size + 1 < u3.heap.size := World.block_lt_of_cell? u3 _ b0; have yu3 : w.heap.size < u3.heap.size := Nat.lt_of_succ_lt zu3; have nu3a : ¬ w.heap.size = u3.heap.size := Nat.ne_of_lt yu3; have nu3b : ¬ u3.heap.size = w.heap.size := Nat.ne_of_gt yu3; have nu3c : ¬ w.heap.size + 1 = u3.heap.size := Nat.ne_of_lt zu3; have nu3d : ¬ u3.heap.size = w.heap.size + 1 := Nat.ne_of_gt zu3; clear hb hbx)
        | (go_at_call_of 18 (Value.agg #[.slice A' n' cap', .int .i64 bd']); refine (toConstraint_any _ _ _ _ c' l' _ hn' (hr'.later (bl_trans HBw18.out (bl_trans HB3.out (by repeat (first | exact Below.refl _ _ | refine bl_alloc ?_ _ | refine Below.drew ?_)))))).mono ?_; rintro e u4 ⟨G4, rfl, hG4, hown4, hb⟩; have hbx : Below u3.heap.size u3 u4 := bl_trans (by repeat (first | exact Below.refl _ _ | refine bl_alloc ?_ _ | refine Below.drew ?_)) hb; (try (have zb := World.block_lt_of_cell? _ _ v0; have g0 := kf hbx (World.block_lt_of_cell? _ _ v0) g0; have g1 := kf hbx (World.block_lt_of_cell? _ _ v1) g1; have v0 := kc hbx v0; have v1 := kc hbx v1)); (try (have hnb := newbox (w0 := u3) hb rfl; have v0 := hnb.1; have v1 := hnb.2.1; have g0 := hnb.2.2.1; have g1 := hnb.2.2.2; clear hnb)); have HB4 := Lib.hid (bl_trans HB3.out hbx); have hown3' := hown3.below hbx hown3.lt; have a0 := kc hbx a0; have a1 := kc hbx a1; have b0 := kc hbx b0; have b1 := kc hbx b1; have zu4 : w.heap.size + 1 < u4.heap.size := World.block_lt_of_cell? u4 _ b0; have yu4 : w.heap.size < u4.heap.size := Nat.lt_of_succ_lt zu4; have nu4a : ¬ w.heap.size = u4.heap.size := Nat.ne_of_lt yu4; have nu4b : ¬ u4.heap.size = w.heap.size := Nat.ne_of_gt yu4; have nu4c : ¬ w.heap.size + 1 = u4.heap.size := Nat.ne_of_lt zu4; have nu4d : ¬ u4.heap.size = w.heap.size + 1 := Nat.ne_of_gt zu4; clear hb hbx)
        | (go_at_call 19; refine (HI.out _ _ _ (hown3'.below (by repeat (first | exact Below.refl _ _ | refine bl_alloc ?_ _ | refine Below.drew ?_)) hown3'.lt).rdAt (hown4.below (by repeat (first | exact Below.refl _ _ | refine bl_alloc ?_ _ | refine Below.drew ?_)) hown4.lt).rdAt).mono ?_; rintro e u5 ⟨Aw, capw, rfl, hfw, hb⟩; have hbx : Below u4.heap.size u4 u5 := bl_trans (by repeat (first | exact Below.refl _ _ | refine bl_alloc ?_ _ | refine Below.drew ?_)) hb; (try (have zb := World.block_lt_of_cell? _ _ v0; have g0 := kf hbx (World.block_lt_of_cell? _ _ v0) g0; have g1 := kf hbx (World.block_lt_of_cell? _ _ v1) g1; have v0 := kc hbx v0; have v1 := kc hbx v1)); (try (have hnb := newbox (w0 := u4) hb rfl; have v0 := hnb.1; have v1 := hnb.2.1; have g0 := hnb.2.2.1; have g1 := hnb.2.2.2; clear hnb)); have HB5 := Lib.hid (bl_trans HB4.out hbx); have FW := Lib.hid hfw; have a0 := kc hbx a0; have a1 := kc hbx a1; have b0 := kc hbx b0; have b1 := kc hbx b1; have zu5 : w.heap.size + 1 < u5.heap.size := World.block_lt_of_cell? u5 _ b0; have yu5 : w.heap.size < u5.heap.size := Nat.lt_of_succ_lt zu5; have nu5a : ¬ w.heap.size = u5.heap.size := Nat.ne_of_lt yu5; have nu5b : ¬ u5.heap.size = w.heap.size := Nat.ne_of_gt yu5; have nu5c : ¬ w.heap.size + 1 = u5.heap.size := Nat.ne_of_lt zu5; have nu5d : ¬ u5.heap.size = w.heap.size + 1 := Nat.ne_of_gt zu5; clear hb hbx hfw))
    all_goals go_wp2_with fail
    all_goals go_meet
    · exact ⟨u5.heap.size, Aw, capw, rfl, rfl, HB5.out.size, by go_simp, by go_simp, (FW.out.below (bl_alloc (Below.refl _ _) _)).more HB4.out.size, HB5.out.alloc HB5.out.size _⟩
    · exact ⟨u4.heap.size, Aw, capw, rfl, rfl, HB4.out.size, by go_simp, by go_simp, ((FW.out.far rfl (by simp) _).far rfl (by simp) _).more (Nat.le_trans HB4.out.size (by simp)), (HB5.out.setCell HB4.out.size _).setCell HB4.out.size _⟩
    · exact ⟨u3.heap.size, Aw, capw, rfl, rfl, HB3.out.size, by go_simp, by go_simp, ((FW.out.far rfl zb _).far rfl zb _).more HB4.out.size, (HB5.out.setCell HB3.out.size _).setCell HB3.out.size _⟩
    · exact ⟨w18.heap.size, Aw, capw, rfl, rfl, Nat.le_refl _, by go_simp, by go_simp, ((FW.out.far rfl zb _).far rfl zb _).more HB4.out.size, (HB5.out.setCell (Nat.le_refl _) _).setCell (Nat.le_refl _) _⟩
  case rest =>
  obtain ⟨H2, Ah, caph, rfl, rfl, zH2, u0, u1, hfh, hb⟩ := hcut
  have HBw21 := Lib.hid (bl_trans HBw18.out hb)
  have FH := Lib.hid hfh
  have FW3 := Lib.hid (FW.out.below hb)
  have FM3 := Lib.hid (FM.out.below hb)
  replace v0 := kc hb v0
  replace v1 := kc hb v1
  replace t0 := kc hb t0
  replace t1 := kc hb t1
  clear hb hfh HBw18 FW FM HI a0 a1 b0 b1
  generalize hwc : wc = w21 at *
  clear hwc
  go_wp2_with fail
  refine (eqConstraint_same _ _ _ _ _ _ _ C L C L _ hN FH.out.rdAt FW3.out.rdAt).mono ?_
  rintro e w22 ⟨rfl, hb⟩
  have HBw22 := Lib.hid (bl_trans HBw21.out hb)
  have FM22 := Lib.hid (FM3.out.below hb)
  replace t0 := kc hb t0
  replace t1 := kc hb t1
  clear hb HBw21 FW3 FM3 FH v0 v1 u0 u1
  rw [ceq_refl]
  go_wp2_with fail
  refine (heldConstraint_any _ _ _ _ _ 1 _ hN (by omega) (by omega) FM22.out).mono ?_
  rintro e w23 ⟨rfl, hb⟩
  have HBw23 := Lib.hid (bl_trans HBw22.out hb)
  clear hb HBw22 FM22
  go_wp2
  go_ret
  exact ⟨rfl, HBw23.out⟩
end Go.Proofs.Ytfcmhnbofoohmaa
