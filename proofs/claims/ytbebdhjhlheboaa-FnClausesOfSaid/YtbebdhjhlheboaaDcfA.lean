/- The draw of ClausesOf's argument (no claim of its own). Conditions: as each theorem states. -/
import Derived.Test.YtbebdhjhlheboaaDrwL
namespace Go.Proofs.Ytbebdhjhlheboaa
open Go.ChangeShapes Go.WideShapes Go.ChangeAt Go.RowKit

/-- What the draw of a constraint leaves. -/
def DCw (w : World) (e : Ending) (w' : World) : Prop := ∃ Ac k capc bd c l, e = .returned (.agg #[.slice Ac k capc, .int .i64 bd]) ∧ k ≤ 13 ∧ Frs w' w.heap.size Ac k c l ∧ Below w.heap.size w w'

set_option maxRecDepth 100000 in
set_option maxHeartbeats 3200000 in
theorem drawCof_any (A : Option Addr) (n cap : Nat) (y : Nat → Int) (w : World) (hm : n ≤ maxLen) (hcap : n ≤ cap) (hr : RdY w w.heap.size A n y) :
    Calls Try.prog 35 #[.slice A n cap] w (DCw w) := by
  have HR := Lib.hid hr
  clear hr
  go_enter Try.func35, Try.ntmps35
  have HB0 := Lib.hid (bl_alloc (Below.refl w.heap.size w) (.cells #[.slice none 0 0, .int .i64 0] 55))
  have r0 : Cel (w.alloc (.cells #[.slice none 0 0, .int .i64 0] 55)) w.heap.size 0 (.slice none 0 0) := ⟨by go_simp, by go_simp⟩
  have r1 : Cel (w.alloc (.cells #[.slice none 0 0, .int .i64 0] 55)) w.heap.size 1 (.int .i64 0) := ⟨by go_simp, by go_simp⟩
  have hz0 : w.heap.size < (w.alloc (.cells #[.slice none 0 0, .int .i64 0] 55)).heap.size := by simp
  go_upto_region 1 with fail
  generalize (w.alloc (.cells #[.slice none 0 0, .int .i64 0] 55)) = W0 at *
  have R0 := Lib.hid r0
  have R1 := Lib.hid r1
  clear r0 r1
  go_wp2_with fail
  refine (open_any _ _ _ y _ hm hcap (HR.out.later HB0.out)).mono ?_
  rintro e w1 ⟨rfl, hb, hrd, hz1⟩
  have HB1 := Lib.hid (bl_trans HB0.out hb)
  have RD1 := Lib.hid hrd
  have S0 := Lib.hid (R0.out.below hb)
  have S1 := Lib.hid (R1.out.below hb)
  clear hb hrd R0 R1
  go_wp2_with fail
  have HAl := Lib.hid (bl_alloc (Below.refl w1.heap.size w1) (.cells #[.int .i64 4, .int .i64 5, .int .i64 6, .int .i64 8, .int .i64 12] 3))
  refine (num_any W0.heap.size 0 w1.heap.size 5 _ _ _ (by omega) (RD1.out.bel HAl.out) (by omega) (heap_alloc_new w1 _) (by rfl) (by omega) (by omega) (lit_all [4, 5, 6, 8, 12])).mono ?_
  rintro e w2 ⟨z, rfl, hz, hg, hrd⟩
  obtain ⟨m, hm12, rfl⟩ : ∃ m : Nat, m ≤ 12 ∧ z = (m : Int) := by
    simp at hz
    rcases hz with h | h | h | h | h
    · exact ⟨4, by omega, h⟩
    · exact ⟨5, by omega, h⟩
    · exact ⟨6, by omega, h⟩
    · exact ⟨8, by omega, h⟩
    · exact ⟨12, by omega, h⟩
  have G2 := Lib.hid hg
  have RD2 := Lib.hid hrd
  have T0 := Lib.hid (hg.cel (S0.out.below HAl.out) (by omega))
  have T1 := Lib.hid (hg.cel (S1.out.below HAl.out) (by omega))
  clear hz hg hrd S0 S1 RD1
  go_wp2_with fail
  refine (draw_any W0.heap.size (0 + 1) m _ (by omega) hm12 RD2.out).mono ?_
  rintro e w3 ⟨Ac, k, capc, bd, rfl, hk, hfe, hg, hr, hcp⟩
  obtain ⟨c, l, hfr⟩ := hfe
  have Hrd := Lib.hid hfr.rdAt
  have G3 := Lib.hid (G2.out.trans hg)
  have RD3 := Lib.hid hr
  have U0 := Lib.hid (hg.cel T0.out (by omega))
  have U1 := Lib.hid (hg.cel T1.out (by omega))
  have HCp := Lib.hid hcp
  clear hfr hg hr hcp T0 T1 RD2 G2
  go_wp2_with fail
  refine (mutate_any W0.heap.size (0 + 1 + 100) _ _ _ _ c l _ (by omega) (by omega) RD3.out Hrd.out HCp.out).mono ?_
  rintro e w4 ⟨Ad, k2, capd, bd2, rfl, hk2, hfe, hg, hr, _⟩
  have FE3 := Lib.hid hfe
  have G4 := Lib.hid (G3.out.trans hg)
  have V0 := Lib.hid (hg.cel U0.out (by omega))
  have V1 := Lib.hid (hg.cel U1.out (by omega))
  have hz3 : W0.heap.size < w4.heap.size := by have := hr.lt; omega
  have hz23 : w3.heap.size ≤ w4.heap.size := hg.size
  have hz12 := G3.out.size
  have hzA := HAl.out.size
  clear hfe hg hr U0 U1 G3 RD3 Hrd HCp
  obtain ⟨b0, f0⟩ := V0.out
  obtain ⟨b1, f1⟩ := V1.out
  go_wp2
  refine bodyPost_ret (v := .agg #[.slice Ad k2 capd, .int .i64 bd2]) (by simp [results, Try.results35, go_sem, b0, b1]) rfl ?_
  obtain ⟨c', l', hfr'⟩ := (FE3.out.set_ (p := ⟨w.heap.size, 0, none⟩) (by show w.heap.size < _; omega) (.slice Ad k2 capd)).set_ (p := ⟨w.heap.size, 1, none⟩) (by show w.heap.size < _; omega) (.int .i64 bd2)
  exact ⟨_, _, _, _, c', l', rfl, by omega, hfr'.more (by omega), ((gr_bel (bl_trans HB1.out HAl.out) G4.out (by omega)).setCell (Nat.le_refl _) _).setCell (Nat.le_refl _) _⟩
end Go.Proofs.Ytbebdhjhlheboaa
