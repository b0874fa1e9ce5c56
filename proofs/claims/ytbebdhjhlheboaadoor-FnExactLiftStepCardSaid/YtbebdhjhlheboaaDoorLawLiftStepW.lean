/- The walk of the exact law of LiftStep (no claim of its own). Conditions: as each theorem states. -/
import Derived.Test.YtbebdhjhlheboaaDoorLifU
import Derived.Test.YtbebdhjhlheboaaDoorLifV
import Derived.Test.YtbebdhjhlheboaaDoorLifC
import Derived.Test.YtbebdhjhlheboaaDoorIntR
import Derived.Test.YtbebdhjhlheboaaDoorComB
import Derived.Test.YtbebdhjhlheboaaDoorMrkR
import Derived.Deep.RegionHeld3
namespace Go.Proofs.YtbebdhjhlheboaaDoor
open Go.ChangeShapes Go.WideShapes Go.ChangeAt Go.RowKit

theorem only_cellL {w w' : World} {A : Option Addr} {n b o : Nat} {v : Value} (ho : Only w w' A n) (hd : n = 0 ∨ ∀ a, A = some a → b ≠ a.block) (hc : w.cell? ⟨b, o, none⟩ = some v) : w'.cell? ⟨b, o, none⟩ = some v := by
  have hlt := World.block_lt_of_cell? w ⟨b, o, none⟩ hc
  have e := ho.block b hlt hd
  rw [← hc]
  simp [World.cell?, e]
theorem nil_cellL {b G : Nat} (h : b ≠ G) : ∀ a : Addr, some (⟨G, 0, none⟩ : Addr) = some a → b ≠ a.block := fun a e => by
  cases e
  exact h

theorem FrI.mk9 {w : World} {B G n : Nat} {T : TypeId} {v : Nat → Int} (h : B ≤ G) (ho : OwnV w G T n n v) : FrI w B T (some ⟨G, 0, none⟩) n v := .inr ⟨G, rfl, h, ho⟩
theorem FrI.only9 {w w' : World} {B n n' : Nat} {T : TypeId} {A A' : Option Addr} {v : Nat → Int} (h : FrI w B T A n v) (ho : Only w w' A' n') (hd : n = 0 ∨ ∀ a, A = some a → n' = 0 ∨ ∀ a', A' = some a' → a.block ≠ a'.block) : FrI w' B T A n v := by
  rcases h with h | ⟨G, e, hB, cs, hh, hs, hc⟩
  · exact .inl h
  · rcases hd with h0 | hd
    · exact .inl h0
    · exact .inr ⟨G, e, hB, cs, (ho.block G (Array.getElem?_eq_some_iff.1 hh).1 (hd ⟨G, 0, none⟩ e)).trans hh, hs, hc⟩

set_option linter.unusedVariables false in
set_option maxRecDepth 100000 in
set_option maxHeartbeats 12800000 in
theorem lawLiftStep_core (A Ax : Option Addr) (n cap m capx : Nat) (k a b bd : Int) (c l x : Nat → Int) (OK : Bool) (NN : Nat) (f : Nat → Int) (w : World) (hn : n ≤ 1048576) (hm : m ≤ 1048576) (hNN : NN ≤ 1048576) (hr : Rd w w.heap.size A n c l) (hx : RdI w w.heap.size Ax m x) (hT : LyAt w)
    (hS : ∀ a1 a2 W, Rd W W.heap.size (some a1) n c l → RdI W W.heap.size (some a2) m x → Calls Tryd.prog 6 #[.agg #[.int .i64 k, .int .i64 a, .int .i64 b, .slice (some a1) n n, .int .i64 bd], .slice (some a2) m m] W (LRes W OK NN f))
    (hI : ∀ a1 a2 W, Rd W W.heap.size (some a1) n c l → RdI W W.heap.size (some a2) m x → LyAt W → Calls Tryd.prog 9 #[.agg #[.int .i64 k, .int .i64 a, .int .i64 b, .slice (some a1) n n, .int .i64 bd], .slice (some a2) m m] W (LRes W OK NN f)) :
    Calls Tryd.prog 3 #[.agg #[.int .i64 k, .int .i64 a, .int .i64 b, .slice A n cap, .int .i64 bd], .slice Ax m capx] w fun e w' => e = .returned (.bool true) ∧ Below w.heap.size w w' := by
  have hni : (n : Int) ≤ 1048576 := by omega
  have hmi : ¬ (1048576 : Int) < (m : Int) := by omega
  have HS := Lib.hid hS
  have HI := Lib.hid hI
  have HR := Lib.hid hr
  have HX := Lib.hid hx
  have HT := Lib.hid hT
  have hw0 := hT.pos
  clear hS hI hr hx hT
  go_enter Tryd.func3, Tryd.ntmps3
  have AL_p := Lib.hid (bl_alloc (Below.refl w.heap.size w) (.cells #[.int .i64 k, .int .i64 a, .int .i64 b, .slice A n cap, .int .i64 bd] 26))
  go_wp2_with fail
  refine (szStep_ok _ _ _ _ _ _ _ _ _ (by omega) (by omega) hni).mono ?_
  rintro e w1 ⟨rfl, hb1⟩
  have hb := bl_trans AL_p.out hb1
  have p0 : w1.cell? ⟨w.heap.size, 0, none⟩ = some (.int .i64 k) := kc hb1 (by go_simp)
  have p1 : w1.cell? ⟨w.heap.size, 1, none⟩ = some (.int .i64 a) := kc hb1 (by go_simp)
  have p2 : w1.cell? ⟨w.heap.size, 2, none⟩ = some (.int .i64 b) := kc hb1 (by go_simp)
  have p3 : w1.cell? ⟨w.heap.size, 3, none⟩ = some (.slice A n cap) := kc hb1 (by go_simp)
  have p4 : w1.cell? ⟨w.heap.size, 4, none⟩ = some (.int .i64 bd) := kc hb1 (by go_simp)
  have q1 : w.heap.size + 1 ≤ w1.heap.size := by have := hb1.size; simpa using this
  have HB1 := Lib.hid hb
  clear hb hb1 AL_p
  have hsz : ¬ ((1048576 : Int) - (n : Int) < 0) := by omega
  go_wp2_with fail
  refine (toStep_any _ _ _ _ _ _ _ c l _ hn (HR.out.later HB1.out)).mono ?_
  rintro e w2 ⟨G2, rfl, hG2, hown2, hb⟩
  replace p0 := kc hb p0
  replace p1 := kc hb p1
  replace p2 := kc hb p2
  replace p3 := kc hb p3
  replace p4 := kc hb p4
  have q2 : w1.heap.size ≤ w2.heap.size := hb.size
  have HB2 := Lib.hid (bl_trans HB1.out hb)
  clear hb HB1
  clear hsz
  go_wp2_with fail
  refine (toIntS_any _ _ _ x _ hm (HX.out.later HB2.out)).mono ?_
  rintro e w3 ⟨H3, rfl, hH3, hown3, hb⟩
  have R2 := Lib.hid (hown2.rdAt.later hb)
  replace p0 := kc hb p0
  replace p1 := kc hb p1
  replace p2 := kc hb p2
  replace p3 := kc hb p3
  replace p4 := kc hb p4
  have q3 : w2.heap.size ≤ w3.heap.size := hb.size
  have HB3 := Lib.hid (bl_trans HB2.out hb)
  clear hb HB2
  have X3 := Lib.hid hown3.rdAt
  clear hG2 hown2 hH3 hown3
  go_wp2_with fail
  refine (HS.out _ _ _ R2.out X3.out).mono ?_
  rintro e w4 ⟨Aw, capw, rfl, hfw, hb⟩
  replace p0 := kc hb p0
  replace p1 := kc hb p1
  replace p2 := kc hb p2
  replace p3 := kc hb p3
  replace p4 := kc hb p4
  have q4 : w3.heap.size ≤ w4.heap.size := hb.size
  have HB4 := Lib.hid (bl_trans HB3.out hb)
  have FW_0 := Lib.hid (hfw.two)
  clear hb HB3
  clear hfw R2 X3
  have z_p0_w4 : w.heap.size < w4.heap.size := World.block_lt_of_cell? w4 _ p0
  have AL_s := Lib.hid (bl_alloc (Below.refl w4.heap.size w4) (.cells #[.int .i64 (lifK OK), .int .i64 0, .int .i64 0, .slice Aw NN capw, .int .i64 (lifD OK)] 33))
  go_wp2_with fail
  refine (toStep_any _ _ _ _ _ _ _ c l _ hn (HR.out.later (bl_trans HB4.out AL_s.out))).mono ?_
  rintro e w5 ⟨G5, rfl, hG5, hown5, hb1⟩
  have hb := bl_trans AL_s.out hb1
  have FW_1 := Lib.hid (FW_0.out.below hb)
  clear FW_0
  replace p0 := kc hb p0
  replace p1 := kc hb p1
  replace p2 := kc hb p2
  replace p3 := kc hb p3
  replace p4 := kc hb p4
  have s0 : w5.cell? ⟨w4.heap.size, 0, none⟩ = some (.int .i64 (lifK OK)) := kc hb1 (by go_simp)
  have s1 : w5.cell? ⟨w4.heap.size, 1, none⟩ = some (.int .i64 0) := kc hb1 (by go_simp)
  have s2 : w5.cell? ⟨w4.heap.size, 2, none⟩ = some (.int .i64 0) := kc hb1 (by go_simp)
  have s3 : w5.cell? ⟨w4.heap.size, 3, none⟩ = some (.slice Aw NN capw) := kc hb1 (by go_simp)
  have s4 : w5.cell? ⟨w4.heap.size, 4, none⟩ = some (.int .i64 (lifD OK)) := kc hb1 (by go_simp)
  have q5 : w4.heap.size + 1 ≤ w5.heap.size := by have := hb1.size; simpa using this
  have HB5 := Lib.hid (bl_trans HB4.out hb)
  have FX_0 := Lib.hid (Frs.two (lo := w4.heap.size + 1) (.inr ⟨G5, rfl, by simpa using hG5, hown5.u⟩))
  clear hb HB4 hb1 AL_s
  have hG5a : w4.heap.size + 1 ≤ G5 := by simpa using hG5
  have hG5b : G5 < w5.heap.size := hown5.lt
  clear hG5 hown5
  have z_p0_w5 : w.heap.size < w5.heap.size := World.block_lt_of_cell? w5 _ p0
  have z_s0_w5 : w4.heap.size < w5.heap.size := World.block_lt_of_cell? w5 _ s0
  have AL_v := Lib.hid (bl_alloc (Below.refl w5.heap.size w5) (.cells #[.int .i64 k, .int .i64 a, .int .i64 b, .slice (some ⟨G5, 0, none⟩) n n, .int .i64 bd] 33))
  go_wp2_with fail
  refine (toIntS_any _ _ _ x _ hm (HX.out.later (bl_trans HB5.out AL_v.out))).mono ?_
  rintro e w6 ⟨H6, rfl, hH6, hown6, hb1⟩
  have hb := bl_trans AL_v.out hb1
  have FW_2 := Lib.hid (FW_1.out.below hb)
  clear FW_1
  have FX_1 := Lib.hid (FX_0.out.below hb)
  clear FX_0
  replace p0 := kc hb p0
  replace p1 := kc hb p1
  replace p2 := kc hb p2
  replace p3 := kc hb p3
  replace p4 := kc hb p4
  replace s0 := kc hb s0
  replace s1 := kc hb s1
  replace s2 := kc hb s2
  replace s3 := kc hb s3
  replace s4 := kc hb s4
  have v0 : w6.cell? ⟨w5.heap.size, 0, none⟩ = some (.int .i64 k) := kc hb1 (by go_simp)
  have v1 : w6.cell? ⟨w5.heap.size, 1, none⟩ = some (.int .i64 a) := kc hb1 (by go_simp)
  have v2 : w6.cell? ⟨w5.heap.size, 2, none⟩ = some (.int .i64 b) := kc hb1 (by go_simp)
  have v3 : w6.cell? ⟨w5.heap.size, 3, none⟩ = some (.slice (some ⟨G5, 0, none⟩) n n) := kc hb1 (by go_simp)
  have v4 : w6.cell? ⟨w5.heap.size, 4, none⟩ = some (.int .i64 bd) := kc hb1 (by go_simp)
  have q6 : w5.heap.size + 1 ≤ w6.heap.size := by have := hb1.size; simpa using this
  have HB6 := Lib.hid (bl_trans HB5.out hb)
  clear hb HB5 hb1 AL_v
  have hH6a : w5.heap.size + 1 ≤ H6 := by simpa using hH6
  have hH6b : H6 < w6.heap.size := hown6.lt
  have Y_0 := Lib.hid (FrI.mk9 hH6a hown6.toV)
  clear hH6 hown6
  go_wp2_with fail
  refine (HI.out _ _ _ FX_1.out.rdAt Y_0.out.rdAt (HT.out.later HB6.out)).mono ?_
  rintro e w7 ⟨Ag, capg, rfl, hfg, hb⟩
  have FW_3 := Lib.hid (FW_2.out.below hb)
  clear FW_2
  have FX_2 := Lib.hid (FX_1.out.below hb)
  clear FX_1
  have Y_1 := Lib.hid (Y_0.out.below hb)
  clear Y_0
  replace p0 := kc hb p0
  replace p1 := kc hb p1
  replace p2 := kc hb p2
  replace p3 := kc hb p3
  replace p4 := kc hb p4
  replace s0 := kc hb s0
  replace s1 := kc hb s1
  replace s2 := kc hb s2
  replace s3 := kc hb s3
  replace s4 := kc hb s4
  replace v0 := kc hb v0
  replace v1 := kc hb v1
  replace v2 := kc hb v2
  replace v3 := kc hb v3
  replace v4 := kc hb v4
  have q7 : w6.heap.size ≤ w7.heap.size := hb.size
  have HB7 := Lib.hid (bl_trans HB6.out hb)
  have FG_0 := Lib.hid (hfg.two)
  clear hb HB6
  clear hfg
  have z_p0_w7 : w.heap.size < w7.heap.size := World.block_lt_of_cell? w7 _ p0
  have z_s0_w7 : w4.heap.size < w7.heap.size := World.block_lt_of_cell? w7 _ s0
  have z_v0_w7 : w5.heap.size < w7.heap.size := World.block_lt_of_cell? w7 _ v0
  have AL_g := Lib.hid (bl_alloc (Below.refl w7.heap.size w7) (.cells #[.int .i64 (lifK OK), .int .i64 0, .int .i64 0, .slice Ag NN capg, .int .i64 (lifD OK)] 33))
  go_wp2_with fail
  refine (eqStep_refl _ _ _ _ ⟨lifK OK, 0, 0, ⟨NN, lifD OK, one1, f⟩⟩ _ hNN (FG_0.out.below AL_g.out).rdAt (FW_3.out.below AL_g.out).rdAt).mono ?_
  rintro e w8 ⟨rfl, hb1⟩
  have hb := bl_trans AL_g.out hb1
  have FW_4 := Lib.hid (FW_3.out.below hb)
  clear FW_3
  have FX_3 := Lib.hid (FX_2.out.below hb)
  clear FX_2
  have Y_2 := Lib.hid (Y_1.out.below hb)
  clear Y_1
  have FG_1 := Lib.hid (FG_0.out.below hb)
  clear FG_0
  replace p0 := kc hb p0
  replace p1 := kc hb p1
  replace p2 := kc hb p2
  replace p3 := kc hb p3
  replace p4 := kc hb p4
  replace s0 := kc hb s0
  replace s1 := kc hb s1
  replace s2 := kc hb s2
  replace s3 := kc hb s3
  replace s4 := kc hb s4
  replace v0 := kc hb v0
  replace v1 := kc hb v1
  replace v2 := kc hb v2
  replace v3 := kc hb v3
  replace v4 := kc hb v4
  have g0 : w8.cell? ⟨w7.heap.size, 0, none⟩ = some (.int .i64 (lifK OK)) := kc hb1 (by go_simp)
  have g1 : w8.cell? ⟨w7.heap.size, 1, none⟩ = some (.int .i64 0) := kc hb1 (by go_simp)
  have g2 : w8.cell? ⟨w7.heap.size, 2, none⟩ = some (.int .i64 0) := kc hb1 (by go_simp)
  have g3 : w8.cell? ⟨w7.heap.size, 3, none⟩ = some (.slice Ag NN capg) := kc hb1 (by go_simp)
  have g4 : w8.cell? ⟨w7.heap.size, 4, none⟩ = some (.int .i64 (lifD OK)) := kc hb1 (by go_simp)
  have q8 : w7.heap.size + 1 ≤ w8.heap.size := by have := hb1.size; simpa using this
  have HB8 := Lib.hid (bl_trans HB7.out hb)
  clear hb HB7 hb1 AL_g
  go_wp2_with fail
  go_region_held3 (fun w' => w'.cell? ⟨w.heap.size, 0, none⟩ = some (.int .i64 k) ∧ w'.cell? ⟨w.heap.size, 1, none⟩ = some (.int .i64 a) ∧ w'.cell? ⟨w.heap.size, 2, none⟩ = some (.int .i64 b) ∧ w'.cell? ⟨w.heap.size, 3, none⟩ = some (.slice A n cap) ∧ w'.cell? ⟨w.heap.size, 4, none⟩ = some (.int .i64 bd) ∧ w'.cell? ⟨w4.heap.size, 0, none⟩ = some (.int .i64 (lifK OK)) ∧ w'.cell? ⟨w4.heap.size, 1, none⟩ = some (.int .i64 0) ∧ w'.cell? ⟨w4.heap.size, 2, none⟩ = some (.int .i64 0) ∧ w'.cell? ⟨w4.heap.size, 3, none⟩ = some (.slice Aw NN capw) ∧ w'.cell? ⟨w4.heap.size, 4, none⟩ = some (.int .i64 (lifD OK)) ∧ w'.cell? ⟨w5.heap.size, 0, none⟩ = some (.int .i64 k) ∧ w'.cell? ⟨w5.heap.size, 1, none⟩ = some (.int .i64 a) ∧ w'.cell? ⟨w5.heap.size, 2, none⟩ = some (.int .i64 b) ∧ w'.cell? ⟨w5.heap.size, 3, none⟩ = some (.slice (some ⟨G5, 0, none⟩) n n) ∧ w'.cell? ⟨w5.heap.size, 4, none⟩ = some (.int .i64 bd) ∧ w'.cell? ⟨w7.heap.size, 0, none⟩ = some (.int .i64 (lifK OK)) ∧ w'.cell? ⟨w7.heap.size, 1, none⟩ = some (.int .i64 0) ∧ w'.cell? ⟨w7.heap.size, 2, none⟩ = some (.int .i64 0) ∧ w'.cell? ⟨w7.heap.size, 3, none⟩ = some (.slice Ag NN capg) ∧ w'.cell? ⟨w7.heap.size, 4, none⟩ = some (.int .i64 (lifD OK))) (go_keep)
    (first
      | (go_at_call 7; refine (toStep_any _ _ _ _ _ _ _ c l _ hn (HR.out.later HB8.out.drew)).mono ?_; rintro e u9 ⟨G9, rfl, hG9, hown9, hb⟩; have HBu9 := Lib.hid (bl_trans HB8.out.drew hb); have qu9 := hb.size; have FWa := Lib.hid (FW_4.out.below (bl_trans (Below.refl w8.heap.size w8).drew hb)); have FXa := Lib.hid (FX_3.out.below (bl_trans (Below.refl w8.heap.size w8).drew hb)); have Ya := Lib.hid (Y_2.out.below (bl_trans (Below.refl w8.heap.size w8).drew hb)); have FGa := Lib.hid (FG_1.out.below (bl_trans (Below.refl w8.heap.size w8).drew hb)); replace p0 := kc hb p0; replace p1 := kc hb p1; replace p2 := kc hb p2; replace p3 := kc hb p3; replace p4 := kc hb p4; replace s0 := kc hb s0; replace s1 := kc hb s1; replace s2 := kc hb s2; replace s3 := kc hb s3; replace s4 := kc hb s4; replace v0 := kc hb v0; replace v1 := kc hb v1; replace v2 := kc hb v2; replace v3 := kc hb v3; replace v4 := kc hb v4; replace g0 := kc hb g0; replace g1 := kc hb g1; replace g2 := kc hb g2; replace g3 := kc hb g3; replace g4 := kc hb g4; clear hb)
      | (go_at_call 10; refine (eqStep_refl _ _ _ _ ⟨k, a, b, ⟨n, bd, c, l⟩⟩ _ hn FXa.out.rdAt hown9.rdAt).mono ?_; rintro e u10 ⟨rfl, hb⟩; have HB10 := Lib.hid (bl_trans HBu9.out hb); have qu10 := hb.size; have FWb := Lib.hid (FWa.out.below hb); have FXb := Lib.hid (FXa.out.below hb); have Yb := Lib.hid (Ya.out.below hb); have FGb := Lib.hid (FGa.out.below hb); replace p0 := kc hb p0; replace p1 := kc hb p1; replace p2 := kc hb p2; replace p3 := kc hb p3; replace p4 := kc hb p4; replace s0 := kc hb s0; replace s1 := kc hb s1; replace s2 := kc hb s2; replace s3 := kc hb s3; replace s4 := kc hb s4; replace v0 := kc hb v0; replace v1 := kc hb v1; replace v2 := kc hb v2; replace v3 := kc hb v3; replace v4 := kc hb v4; replace g0 := kc hb g0; replace g1 := kc hb g1; replace g2 := kc hb g2; replace g3 := kc hb g3; replace g4 := kc hb g4; clear hb))
  have FW_19 := FWb
  have FX_19 := FXb
  have Y_19 := Yb
  have FG_19 := FGb
  clear FW_4 FX_3 Y_2 FG_1 FWa FWb FXa FXb Ya Yb FGa FGb HB8 HBu9 hG9 hown9
  have q9 : w8.heap.size ≤ u10.heap.size := by have h1 : w8.heap.size ≤ u9.heap.size := qu9; omega
  go_wp2_with fail
  refine (toIntS_any _ _ _ x _ hm (HX.out.later HB10.out)).mono ?_
  rintro e w11 ⟨H11, rfl, hH11, hown11, hb⟩
  have FW_20 := Lib.hid (FW_19.out.below hb)
  clear FW_19
  have FX_20 := Lib.hid (FX_19.out.below hb)
  clear FX_19
  have Y_20 := Lib.hid (Y_19.out.below hb)
  clear Y_19
  have FG_20 := Lib.hid (FG_19.out.below hb)
  clear FG_19
  replace p0 := kc hb p0
  replace p1 := kc hb p1
  replace p2 := kc hb p2
  replace p3 := kc hb p3
  replace p4 := kc hb p4
  replace s0 := kc hb s0
  replace s1 := kc hb s1
  replace s2 := kc hb s2
  replace s3 := kc hb s3
  replace s4 := kc hb s4
  replace v0 := kc hb v0
  replace v1 := kc hb v1
  replace v2 := kc hb v2
  replace v3 := kc hb v3
  replace v4 := kc hb v4
  replace g0 := kc hb g0
  replace g1 := kc hb g1
  replace g2 := kc hb g2
  replace g3 := kc hb g3
  replace g4 := kc hb g4
  have q11 : u10.heap.size ≤ w11.heap.size := hb.size
  have HB11 := Lib.hid (bl_trans HB10.out hb)
  clear hb HB10
  have X11 := Lib.hid hown11.rdAt
  clear hH11 hown11
  go_wp2_with fail
  refine (eqIntS_refl _ _ _ _ _ x _ hm Y_20.out.rdAt X11.out).mono ?_
  rintro e w12 ⟨rfl, hb⟩
  have FW_21 := Lib.hid (FW_20.out.below hb)
  clear FW_20
  have FX_21 := Lib.hid (FX_20.out.below hb)
  clear FX_20
  have Y_21 := Lib.hid (Y_20.out.below hb)
  clear Y_20
  have FG_21 := Lib.hid (FG_20.out.below hb)
  clear FG_20
  replace p0 := kc hb p0
  replace p1 := kc hb p1
  replace p2 := kc hb p2
  replace p3 := kc hb p3
  replace p4 := kc hb p4
  replace s0 := kc hb s0
  replace s1 := kc hb s1
  replace s2 := kc hb s2
  replace s3 := kc hb s3
  replace s4 := kc hb s4
  replace v0 := kc hb v0
  replace v1 := kc hb v1
  replace v2 := kc hb v2
  replace v3 := kc hb v3
  replace v4 := kc hb v4
  replace g0 := kc hb g0
  replace g1 := kc hb g1
  replace g2 := kc hb g2
  replace g3 := kc hb g3
  replace g4 := kc hb g4
  have q12 : w11.heap.size ≤ w12.heap.size := hb.size
  have HB12 := Lib.hid (bl_trans HB11.out hb)
  clear hb HB11
  clear X11
  go_wp2_with fail
  refine (markStep_any _ _ _ _ _ _ _ _ c l 1 _ hn (by omega) (by omega) FX_21.out.one).mono ?_
  rintro e w13 ⟨rfl, hfm, ho⟩
  have Y_m := Lib.hid ((Y_21.out.only9 ho (.inr fun a e => .inr fun a' e' => by cases e; cases e'; dsimp only; omega)))
  have HB13 := Lib.hid ((ho.range (lo := w4.heap.size + 1) (hi := G5 + 1) (by omega) (by omega)).below HB12.out (by omega))
  have q13 : w12.heap.size ≤ w13.heap.size := ho.size
  have FW_22 := Lib.hid (FW_21.out.only ho (.inr fun a e => by cases e; dsimp only; omega))
  clear FW_21
  have FG_22 := Lib.hid (FG_21.out.only ho (.inr fun a e => by cases e; dsimp only; omega))
  clear FG_21
  replace p0 := only_cellL ho (.inr (nil_cellL (by omega))) p0
  replace p1 := only_cellL ho (.inr (nil_cellL (by omega))) p1
  replace p2 := only_cellL ho (.inr (nil_cellL (by omega))) p2
  replace p3 := only_cellL ho (.inr (nil_cellL (by omega))) p3
  replace p4 := only_cellL ho (.inr (nil_cellL (by omega))) p4
  replace s0 := only_cellL ho (.inr (nil_cellL (by omega))) s0
  replace s1 := only_cellL ho (.inr (nil_cellL (by omega))) s1
  replace s2 := only_cellL ho (.inr (nil_cellL (by omega))) s2
  replace s3 := only_cellL ho (.inr (nil_cellL (by omega))) s3
  replace s4 := only_cellL ho (.inr (nil_cellL (by omega))) s4
  replace v0 := only_cellL ho (.inr (nil_cellL (by omega))) v0
  replace v1 := only_cellL ho (.inr (nil_cellL (by omega))) v1
  replace v2 := only_cellL ho (.inr (nil_cellL (by omega))) v2
  replace v3 := only_cellL ho (.inr (nil_cellL (by omega))) v3
  replace v4 := only_cellL ho (.inr (nil_cellL (by omega))) v4
  replace g0 := only_cellL ho (.inr (nil_cellL (by omega))) g0
  replace g1 := only_cellL ho (.inr (nil_cellL (by omega))) g1
  replace g2 := only_cellL ho (.inr (nil_cellL (by omega))) g2
  replace g3 := only_cellL ho (.inr (nil_cellL (by omega))) g3
  replace g4 := only_cellL ho (.inr (nil_cellL (by omega))) g4
  clear HB12
  clear ho hfm Y_21 FX_21
  have hk1 : (0 : Int) ≤ 1 + 2 * (n : Int) := by omega
  have hk1' : (1 : Int) + 2 * (n : Int) ≤ 16777216 := by omega
  go_wp2_with fail
  refine (markIntS_any _ _ _ _ x _ _ hm hk1 hk1' Y_m.out).mono ?_
  rintro e w14 ⟨rfl, hfm, ho⟩
  have HB14 := Lib.hid ((ho.range (lo := w5.heap.size + 1) (hi := H6 + 1) (by omega) (by omega)).below HB13.out (by omega))
  have q14 : w13.heap.size ≤ w14.heap.size := ho.size
  have FW_23 := Lib.hid (FW_22.out.only ho (.inr fun a e => by cases e; dsimp only; omega))
  clear FW_22
  have FG_23 := Lib.hid (FG_22.out.only ho (.inr fun a e => by cases e; dsimp only; omega))
  clear FG_22
  replace p0 := only_cellL ho (.inr (nil_cellL (by omega))) p0
  replace p1 := only_cellL ho (.inr (nil_cellL (by omega))) p1
  replace p2 := only_cellL ho (.inr (nil_cellL (by omega))) p2
  replace p3 := only_cellL ho (.inr (nil_cellL (by omega))) p3
  replace p4 := only_cellL ho (.inr (nil_cellL (by omega))) p4
  replace s0 := only_cellL ho (.inr (nil_cellL (by omega))) s0
  replace s1 := only_cellL ho (.inr (nil_cellL (by omega))) s1
  replace s2 := only_cellL ho (.inr (nil_cellL (by omega))) s2
  replace s3 := only_cellL ho (.inr (nil_cellL (by omega))) s3
  replace s4 := only_cellL ho (.inr (nil_cellL (by omega))) s4
  replace v0 := only_cellL ho (.inr (nil_cellL (by omega))) v0
  replace v1 := only_cellL ho (.inr (nil_cellL (by omega))) v1
  replace v2 := only_cellL ho (.inr (nil_cellL (by omega))) v2
  replace v3 := only_cellL ho (.inr (nil_cellL (by omega))) v3
  replace v4 := only_cellL ho (.inr (nil_cellL (by omega))) v4
  replace g0 := only_cellL ho (.inr (nil_cellL (by omega))) g0
  replace g1 := only_cellL ho (.inr (nil_cellL (by omega))) g1
  replace g2 := only_cellL ho (.inr (nil_cellL (by omega))) g2
  replace g3 := only_cellL ho (.inr (nil_cellL (by omega))) g3
  replace g4 := only_cellL ho (.inr (nil_cellL (by omega))) g4
  clear HB13
  clear ho hfm Y_m hk1 hk1'
  have hk2 : ¬ ((1 : Int) + 2 * (n : Int) + (m : Int) < 0) := by omega
  clear v0
  clear v1
  clear v2
  clear v3
  clear v4
  go_wp2_with fail
  refine (eqStep_refl _ _ _ _ ⟨lifK OK, 0, 0, ⟨NN, lifD OK, one1, f⟩⟩ _ hNN FG_23.out.rdAt FW_23.out.rdAt).mono ?_
  rintro e w15 ⟨rfl, hb⟩
  have FW_24 := Lib.hid (FW_23.out.below hb)
  clear FW_23
  have FG_24 := Lib.hid (FG_23.out.below hb)
  clear FG_23
  replace p0 := kc hb p0
  replace p1 := kc hb p1
  replace p2 := kc hb p2
  replace p3 := kc hb p3
  replace p4 := kc hb p4
  replace s0 := kc hb s0
  replace s1 := kc hb s1
  replace s2 := kc hb s2
  replace s3 := kc hb s3
  replace s4 := kc hb s4
  replace g0 := kc hb g0
  replace g1 := kc hb g1
  replace g2 := kc hb g2
  replace g3 := kc hb g3
  replace g4 := kc hb g4
  have q15 : w14.heap.size ≤ w15.heap.size := hb.size
  have HB15 := Lib.hid (bl_trans HB14.out hb)
  clear hb HB14
  clear hk2
  go_wp2_with fail
  refine (markStep_any _ _ _ _ _ _ _ _ one1 f 1 _ hNN (by omega) (by omega) FG_24.out.one).mono ?_
  rintro e w16 ⟨rfl, hfm, ho⟩
  have HB16 := Lib.hid (ho.bel FG_24.out HB15.out (by omega))
  have q16 : w15.heap.size ≤ w16.heap.size := ho.size
  have FW_25 := Lib.hid (FW_24.out.only ho (FG_24.out.apart (.inr (by omega))))
  clear FW_24
  replace p0 := FG_24.out.cell ho (p := ⟨_, _, none⟩) (by dsimp only; omega) p0
  replace p1 := FG_24.out.cell ho (p := ⟨_, _, none⟩) (by dsimp only; omega) p1
  replace p2 := FG_24.out.cell ho (p := ⟨_, _, none⟩) (by dsimp only; omega) p2
  replace p3 := FG_24.out.cell ho (p := ⟨_, _, none⟩) (by dsimp only; omega) p3
  replace p4 := FG_24.out.cell ho (p := ⟨_, _, none⟩) (by dsimp only; omega) p4
  replace s0 := FG_24.out.cell ho (p := ⟨_, _, none⟩) (by dsimp only; omega) s0
  replace s1 := FG_24.out.cell ho (p := ⟨_, _, none⟩) (by dsimp only; omega) s1
  replace s2 := FG_24.out.cell ho (p := ⟨_, _, none⟩) (by dsimp only; omega) s2
  replace s3 := FG_24.out.cell ho (p := ⟨_, _, none⟩) (by dsimp only; omega) s3
  replace s4 := FG_24.out.cell ho (p := ⟨_, _, none⟩) (by dsimp only; omega) s4
  replace g0 := FG_24.out.cell ho (p := ⟨_, _, none⟩) (by dsimp only; omega) g0
  replace g1 := FG_24.out.cell ho (p := ⟨_, _, none⟩) (by dsimp only; omega) g1
  replace g2 := FG_24.out.cell ho (p := ⟨_, _, none⟩) (by dsimp only; omega) g2
  replace g3 := FG_24.out.cell ho (p := ⟨_, _, none⟩) (by dsimp only; omega) g3
  replace g4 := FG_24.out.cell ho (p := ⟨_, _, none⟩) (by dsimp only; omega) g4
  have FM_0 := Lib.hid hfm
  clear HB15 ho hfm FG_24
  have hk3 : ¬ ((1 : Int) + 2 * (NN : Int) < 0) := by omega
  go_wp2_with fail
  refine (heldStep_any _ _ _ _ _ _ _ _ 1 _ hNN (by omega) (by omega) FM_0.out).mono ?_
  rintro e w17 ⟨rfl, hb⟩
  have FW_26 := Lib.hid (FW_25.out.below hb)
  clear FW_25
  have FM_1 := Lib.hid (FM_0.out.below hb)
  clear FM_0
  replace p0 := kc hb p0
  replace p1 := kc hb p1
  replace p2 := kc hb p2
  replace p3 := kc hb p3
  replace p4 := kc hb p4
  replace s0 := kc hb s0
  replace s1 := kc hb s1
  replace s2 := kc hb s2
  replace s3 := kc hb s3
  replace s4 := kc hb s4
  replace g0 := kc hb g0
  replace g1 := kc hb g1
  replace g2 := kc hb g2
  replace g3 := kc hb g3
  replace g4 := kc hb g4
  have q17 : w16.heap.size ≤ w17.heap.size := hb.size
  have HB17 := Lib.hid (bl_trans HB16.out hb)
  clear hb HB16
  go_wp2_with fail
  refine (toStep_any _ _ _ _ _ _ _ c l _ hn (HR.out.later HB17.out)).mono ?_
  rintro e w18 ⟨G18, rfl, hG18, hown18, hb⟩
  have FW_27 := Lib.hid (FW_26.out.below hb)
  clear FW_26
  have FM_2 := Lib.hid (FM_1.out.below hb)
  clear FM_1
  replace p0 := kc hb p0
  replace p1 := kc hb p1
  replace p2 := kc hb p2
  replace p3 := kc hb p3
  replace p4 := kc hb p4
  replace s0 := kc hb s0
  replace s1 := kc hb s1
  replace s2 := kc hb s2
  replace s3 := kc hb s3
  replace s4 := kc hb s4
  replace g0 := kc hb g0
  replace g1 := kc hb g1
  replace g2 := kc hb g2
  replace g3 := kc hb g3
  replace g4 := kc hb g4
  have q18 : w17.heap.size ≤ w18.heap.size := hb.size
  have HB18 := Lib.hid (bl_trans HB17.out hb)
  clear hb HB17
  go_wp2_with fail
  refine (toIntS_any _ _ _ x _ hm (HX.out.later HB18.out)).mono ?_
  rintro e w19 ⟨H19, rfl, hH19, hown19, hb⟩
  have R18 := Lib.hid (hown18.rdAt.later hb)
  have FW_28 := Lib.hid (FW_27.out.below hb)
  clear FW_27
  have FM_3 := Lib.hid (FM_2.out.below hb)
  clear FM_2
  replace p0 := kc hb p0
  replace p1 := kc hb p1
  replace p2 := kc hb p2
  replace p3 := kc hb p3
  replace p4 := kc hb p4
  replace s0 := kc hb s0
  replace s1 := kc hb s1
  replace s2 := kc hb s2
  replace s3 := kc hb s3
  replace s4 := kc hb s4
  replace g0 := kc hb g0
  replace g1 := kc hb g1
  replace g2 := kc hb g2
  replace g3 := kc hb g3
  replace g4 := kc hb g4
  have q19 : w18.heap.size ≤ w19.heap.size := hb.size
  have HB19 := Lib.hid (bl_trans HB18.out hb)
  clear hb HB18
  have X19 := Lib.hid hown19.rdAt
  clear hG18 hown18 hH19 hown19
  go_wp2_with fail
  refine (HI.out _ _ _ R18.out X19.out (HT.out.later HB19.out)).mono ?_
  rintro e w20 ⟨Ah, caph, rfl, hfh, hb⟩
  have FW_29 := Lib.hid (FW_28.out.below hb)
  clear FW_28
  have FM_4 := Lib.hid (FM_3.out.below hb)
  clear FM_3
  replace p0 := kc hb p0
  replace p1 := kc hb p1
  replace p2 := kc hb p2
  replace p3 := kc hb p3
  replace p4 := kc hb p4
  replace s0 := kc hb s0
  replace s1 := kc hb s1
  replace s2 := kc hb s2
  replace s3 := kc hb s3
  replace s4 := kc hb s4
  replace g0 := kc hb g0
  replace g1 := kc hb g1
  replace g2 := kc hb g2
  replace g3 := kc hb g3
  replace g4 := kc hb g4
  have q20 : w19.heap.size ≤ w20.heap.size := hb.size
  have HB20 := Lib.hid (bl_trans HB19.out hb)
  have FH_0 := Lib.hid (hfh.two)
  clear hb HB19
  clear hfh R18 X19
  have z_p0_w20 : w.heap.size < w20.heap.size := World.block_lt_of_cell? w20 _ p0
  have z_s0_w20 : w4.heap.size < w20.heap.size := World.block_lt_of_cell? w20 _ s0
  have z_g0_w20 : w7.heap.size < w20.heap.size := World.block_lt_of_cell? w20 _ g0
  have AL_h := Lib.hid (bl_alloc (Below.refl w20.heap.size w20) (.cells #[.int .i64 (lifK OK), .int .i64 0, .int .i64 0, .slice Ah NN caph, .int .i64 (lifD OK)] 33))
  go_wp2_with fail
  refine (eqStep_refl _ _ _ _ ⟨lifK OK, 0, 0, ⟨NN, lifD OK, one1, f⟩⟩ _ hNN (FH_0.out.below AL_h.out).rdAt (FW_29.out.below AL_h.out).rdAt).mono ?_
  rintro e w21 ⟨rfl, hb1⟩
  have hb := bl_trans AL_h.out hb1
  have FW_30 := Lib.hid (FW_29.out.below hb)
  clear FW_29
  have FM_5 := Lib.hid (FM_4.out.below hb)
  clear FM_4
  have FH_1 := Lib.hid (FH_0.out.below hb)
  clear FH_0
  replace p0 := kc hb p0
  replace p1 := kc hb p1
  replace p2 := kc hb p2
  replace p3 := kc hb p3
  replace p4 := kc hb p4
  replace s0 := kc hb s0
  replace s1 := kc hb s1
  replace s2 := kc hb s2
  replace s3 := kc hb s3
  replace s4 := kc hb s4
  replace g0 := kc hb g0
  replace g1 := kc hb g1
  replace g2 := kc hb g2
  replace g3 := kc hb g3
  replace g4 := kc hb g4
  have h0 : w21.cell? ⟨w20.heap.size, 0, none⟩ = some (.int .i64 (lifK OK)) := kc hb1 (by go_simp)
  have h1 : w21.cell? ⟨w20.heap.size, 1, none⟩ = some (.int .i64 0) := kc hb1 (by go_simp)
  have h2 : w21.cell? ⟨w20.heap.size, 2, none⟩ = some (.int .i64 0) := kc hb1 (by go_simp)
  have h3 : w21.cell? ⟨w20.heap.size, 3, none⟩ = some (.slice Ah NN caph) := kc hb1 (by go_simp)
  have h4 : w21.cell? ⟨w20.heap.size, 4, none⟩ = some (.int .i64 (lifD OK)) := kc hb1 (by go_simp)
  have q21 : w20.heap.size + 1 ≤ w21.heap.size := by have := hb1.size; simpa using this
  have HB21 := Lib.hid (bl_trans HB20.out hb)
  clear hb HB20 hb1 AL_h
  go_wp2_with fail
  refine (heldStep_any _ _ _ _ _ _ _ _ 1 _ hNN (by omega) (by omega) FM_5.out).mono ?_
  rintro e w22 ⟨rfl, hb⟩
  have FW_31 := Lib.hid (FW_30.out.below hb)
  clear FW_30
  have FM_6 := Lib.hid (FM_5.out.below hb)
  clear FM_5
  have FH_2 := Lib.hid (FH_1.out.below hb)
  clear FH_1
  replace p0 := kc hb p0
  replace p1 := kc hb p1
  replace p2 := kc hb p2
  replace p3 := kc hb p3
  replace p4 := kc hb p4
  replace s0 := kc hb s0
  replace s1 := kc hb s1
  replace s2 := kc hb s2
  replace s3 := kc hb s3
  replace s4 := kc hb s4
  replace g0 := kc hb g0
  replace g1 := kc hb g1
  replace g2 := kc hb g2
  replace g3 := kc hb g3
  replace g4 := kc hb g4
  replace h0 := kc hb h0
  replace h1 := kc hb h1
  replace h2 := kc hb h2
  replace h3 := kc hb h3
  replace h4 := kc hb h4
  have q22 : w21.heap.size ≤ w22.heap.size := hb.size
  have HB22 := Lib.hid (bl_trans HB21.out hb)
  clear hb HB21
  go_wp2
  go_ret
  exact ⟨rfl, HB22.out⟩

theorem lifN_le9 (k a b : Int) (n : Nat) (c l : Nat → Int) (bd : Int) (m : Nat) (x : Nat → Int) : lifN k a b n c l bd m x ≤ 1048576 := by
  unfold lifN
  split
  · unfold clN
    split
    · exact Nat.le_trans (clR_length _ _) (by omega)
    · omega
  · omega
set_option maxRecDepth 100000 in
set_option maxHeartbeats 1600000 in
theorem lawLiftStep_walk (A : Option Addr) (n cap : Nat) (k a b bd : Int) (c l : Nat → Int) (Ax : Option Addr) (m capx : Nat) (x : Nat → Int) (w : World) (hmn : n ≤ maxLen) (hr : Rd w w.heap.size A n c l) (hmm : m ≤ maxLen) (hx : RdI w w.heap.size Ax m x) (hT : LyAt w) :
    Calls Tryd.prog 3 #[.agg #[.int .i64 k, .int .i64 a, .int .i64 b, .slice A n cap, .int .i64 bd], .slice Ax m capx] w fun e w' => e = .returned (.bool true) ∧ Below w.heap.size w w' := by
  by_cases hm : m ≤ 1048576
  · by_cases hn : n ≤ 1048576
    · exact lawLiftStep_core A Ax n cap m capx k a b bd c l x _ _ _ w hn hm (lifN_le9 k a b n c l bd m x) hr hx hT (fun a1 a2 W h1 h2 => specLift_any _ _ _ _ _ _ k a b bd c l x W hn hm h1 h2) (fun a1 a2 W h1 h2 h3 => implLift_any _ _ _ _ _ _ k a b bd c l x W hn hm h1 h2 h3)
    · have hn' : 1048576 < n := by omega
      have hmi : ¬ (1048576 : Int) < (m : Int) := by omega
      clear hn
      go_enter Tryd.func3, Tryd.ntmps3
      go_wp2_with (go_at_call 5; refine (szStep_no _ _ _ _ _ _ _ _ _ (by omega) (by omega) (by omega) hmn).mono ?_; rintro e w' ⟨rfl, hb⟩; have HB := Lib.hid (bl_trans (bl_alloc (Below.refl w.heap.size w) _) hb); clear hb)
      go_ret
      exact ⟨rfl, HB.out⟩
  · unfold maxLen at hmm
    have hmi : (1048576 : Int) < (m : Int) := by omega
    go_enter Tryd.func3, Tryd.ntmps3
    go_wp2
    go_ret
    exact ⟨rfl, bl_alloc (Below.refl w.heap.size w) _⟩
end Go.Proofs.YtbebdhjhlheboaaDoor
