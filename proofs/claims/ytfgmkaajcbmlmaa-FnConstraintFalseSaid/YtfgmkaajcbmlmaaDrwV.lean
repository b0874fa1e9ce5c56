/- The draws of a constraint alone (no claim of its own). Conditions: as each theorem states. -/
import Derived.Test.YtfgmkaajcbmlmaaDrwM
namespace Go.Proofs.Ytfgmkaajcbmlmaa
open Go.ChangeShapes Go.WideShapes Go.ChangeAt Go.RowKit

/-- What the draw of a constraint leaves. -/
def DCv (w : World) (e : Ending) (w' : World) : Prop := ∃ Ac k capc bd c l, e = .returned (.agg #[.slice Ac k capc, .int .i64 bd]) ∧ k ≤ 13 ∧ Frs w' w.heap.size Ac k c l ∧ Below w.heap.size w w'

set_option maxRecDepth 100000 in
set_option maxHeartbeats 6400000 in
theorem drawCv_any (A : Option Addr) (n cap : Nat) (y : Nat → Int) (w : World) (hm : n ≤ maxLen) (hcap : n ≤ cap) (hr : RdY w w.heap.size A n y) :
    Calls Try.prog 65 #[.slice A n cap] w (DCv w) := by
  have HR := Lib.hid hr
  clear hr
  go_enter Try.func65, Try.ntmps65
  go_upto_region 1 with fail
  have HB0 := Lib.hid (bl_alloc (Below.refl w.heap.size w) (.cells #[.slice none 0 0, .int .i64 0] 25))
  have r0 : Cel (w.alloc (.cells #[.slice none 0 0, .int .i64 0] 25)) w.heap.size 0 (.slice none 0 0) := ⟨by go_simp, by go_simp⟩
  have r1 : Cel (w.alloc (.cells #[.slice none 0 0, .int .i64 0] 25)) w.heap.size 1 (.int .i64 0) := ⟨by go_simp, by go_simp⟩
  have hz0 : w.heap.size < (w.alloc (.cells #[.slice none 0 0, .int .i64 0] 25)).heap.size := by simp
  generalize (w.alloc (.cells #[.slice none 0 0, .int .i64 0] 25)) = W0 at *
  have R0 := Lib.hid r0
  have R1 := Lib.hid r1
  clear r0 r1
  go_wp2_with fail
  refine (open_any _ _ _ y _ hm hcap (HR.out.later HB0.out)).mono ?_
  rintro e w1 ⟨rfl, hb, hrd, hz1⟩
  have HB1 := Lib.hid (bl_trans HB0.out hb)
  have RD1 := Lib.hid hrd
  have S0 := Lib.hid (R0.out.below hb)
  have S1 := Lib.hid (R1.out.below hb)
  clear hb hrd R0 R1
  go_wp2_with fail
  refine (constraint_any W0.heap.size 0 _ (by omega) RD1.out).mono ?_
  rintro e w2 ⟨Ac, k, capc, bd, rfl, hk, hfe, hg, hr, hcp⟩
  obtain ⟨c, l, hfr⟩ := hfe
  have Hrd := Lib.hid hfr.rdAt
  have G2 := Lib.hid hg
  have RD2 := Lib.hid hr
  have T0 := Lib.hid (hg.cel S0.out (by omega))
  have T1 := Lib.hid (hg.cel S1.out (by omega))
  have HCp := Lib.hid hcp
  clear hfr hg hr hcp S0 S1 RD1
  go_wp2_with fail
  refine (mutate_any W0.heap.size (0 + 200) _ _ _ _ c l _ (by omega) (by omega) RD2.out Hrd.out HCp.out).mono ?_
  rintro e w3 ⟨Ad, k2, capd, bd2, rfl, hk2, hfe, hg, hr, _⟩
  have FE3 := Lib.hid hfe
  have G3 := Lib.hid (G2.out.trans hg)
  have RD3 := Lib.hid hr
  have U0 := Lib.hid (hg.cel T0.out (by omega))
  have U1 := Lib.hid (hg.cel T1.out (by omega))
  have hz3 : W0.heap.size < w3.heap.size := by have := hr.lt; omega
  have hz23 : w2.heap.size ≤ w3.heap.size := hg.size
  have hz12 : w1.heap.size ≤ w2.heap.size := G2.out.size
  clear hfe hg hr T0 T1 G2 RD2 Hrd HCp
  obtain ⟨b0, f0⟩ := U0.out
  obtain ⟨b1, f1⟩ := U1.out
  go_wp2
  refine bodyPost_ret (v := .agg #[.slice Ad k2 capd, .int .i64 bd2]) (by simp [results, Try.results65, go_sem, b0, b1]) rfl ?_
  obtain ⟨c', l', hfr'⟩ := (FE3.out.set_ (p := ⟨w.heap.size, 0, none⟩) (by show w.heap.size < _; omega) (.slice Ad k2 capd)).set_ (p := ⟨w.heap.size, 1, none⟩) (by show w.heap.size < _; omega) (.int .i64 bd2)
  exact ⟨_, _, _, _, c', l', rfl, by omega, hfr'.more (by omega), ((gr_bel HB1.out G3.out (by omega)).setCell (Nat.le_refl _) _).setCell (Nat.le_refl _) _⟩

set_option maxRecDepth 100000 in
set_option maxHeartbeats 3200000 in
theorem drawNeg_any (A : Option Addr) (n cap : Nat) (y : Nat → Int) (w : World) (hm : n ≤ maxLen) (hcap : n ≤ cap) (hr : RdY w w.heap.size A n y) :
    Calls Try.prog 33 #[.slice A n cap] w (DCv w) := by
  have HR := Lib.hid hr
  clear hr
  go_enter Try.func33, Try.ntmps33
  go_wp2_with fail
  have HB0 := Lib.hid (bl_alloc (Below.refl w.heap.size w) (.cells #[.slice none 0 0, .int .i64 0] 25))
  have r0 : Cel (w.alloc (.cells #[.slice none 0 0, .int .i64 0] 25)) w.heap.size 0 (.slice none 0 0) := ⟨by go_simp, by go_simp⟩
  have r1 : Cel (w.alloc (.cells #[.slice none 0 0, .int .i64 0] 25)) w.heap.size 1 (.int .i64 0) := ⟨by go_simp, by go_simp⟩
  have hz : w.heap.size < (w.alloc (.cells #[.slice none 0 0, .int .i64 0] 25)).heap.size := by simp
  have R0 := Lib.hid r0
  have R1 := Lib.hid r1
  have Hz := Lib.hid hz
  clear r0 r1 hz
  refine (drawCv_any _ _ _ y _ hm hcap (HR.out.later HB0.out)).mono ?_
  rintro e w1 ⟨Ac, k, capc, bd, c, l, rfl, hk, hrd, hb⟩
  have HB1 := Lib.hid (bl_trans HB0.out hb)
  obtain ⟨b0, f0⟩ := R0.out.below hb
  obtain ⟨b1, f1⟩ := R1.out.below hb
  have Hrd := Lib.hid hrd
  clear hb hrd R0 R1
  go_wp2
  refine bodyPost_ret (v := .agg #[.slice Ac k capc, .int .i64 bd]) (by simp [results, Try.results33, go_sem, b0, b1]) rfl ?_
  exact ⟨_, _, _, _, c, l, rfl, hk, ((Hrd.out.far rfl Hz.out _).far rfl Hz.out _).more (Nat.le_of_lt Hz.out), (HB1.out.setCell (Nat.le_refl _) _).setCell (Nat.le_refl _) _⟩
end Go.Proofs.Ytfgmkaajcbmlmaa
