/- The draws of the arguments, with values (no claim of its own). Conditions: as each theorem states. -/
import Derived.Test.YtbebdhjhlheboaaDrwK
namespace Go.Proofs.Ytbebdhjhlheboaa
open Go.ChangeShapes Go.WideShapes Go.ChangeAt Go.RowKit

set_option maxRecDepth 100000 in
set_option maxHeartbeats 6400000 in
theorem drawEval_any (A : Option Addr) (n cap : Nat) (y : Nat → Int) (w : World) (hm : n ≤ maxLen) (hcap : n ≤ cap) (hr : RdY w w.heap.size A n y) :
    Calls Try.prog 36 #[.slice A n cap] w (DEv w) := by
  have HR := Lib.hid hr
  clear hr
  go_enter Try.func36, Try.ntmps36
  go_upto_region 1 with fail
  have HB0 := Lib.hid (bl_alloc (Below.refl w.heap.size w) (.cells #[.slice none 0 0, .int .i64 0] 55))
  have r0 : Cel (w.alloc (.cells #[.slice none 0 0, .int .i64 0] 55)) w.heap.size 0 (.slice none 0 0) := ⟨by go_simp, by go_simp⟩
  have r1 : Cel (w.alloc (.cells #[.slice none 0 0, .int .i64 0] 55)) w.heap.size 1 (.int .i64 0) := ⟨by go_simp, by go_simp⟩
  have hz0 : w.heap.size < (w.alloc (.cells #[.slice none 0 0, .int .i64 0] 55)).heap.size := by simp
  generalize (w.alloc (.cells #[.slice none 0 0, .int .i64 0] 55)) = W0 at *
  have R0 := Lib.hid r0
  have R1 := Lib.hid r1
  clear r0 r1
  go_wp2_with fail
  refine (open_any _ _ _ y _ hm hcap (HR.out.later HB0.out)).mono ?_
  rintro e w1 ⟨rfl, hb, hrd, hz1⟩
  have HB1 := Lib.hid (bl_trans HB0.out hb)
  have RD1 := Lib.hid hrd
  have S0 := Lib.hid (R0.out.below hb)
  have S1 := Lib.hid (R1.out.below hb)
  clear hb hrd R0 R1
  go_wp2_with fail
  refine (constraint_any W0.heap.size 0 _ (by omega) RD1.out).mono ?_
  rintro e w2 ⟨Ac, k, capc, bd, rfl, hk, hfe, hg, hr, hcp⟩
  obtain ⟨c, l, hfr⟩ := hfe
  have Hrd := Lib.hid hfr.rdAt
  have G2 := Lib.hid hg
  have RD2 := Lib.hid hr
  have T0 := Lib.hid (hg.cel S0.out (by omega))
  have T1 := Lib.hid (hg.cel S1.out (by omega))
  have HCp := Lib.hid hcp
  clear hfr hg hr hcp S0 S1 RD1
  go_wp2_with fail
  refine (mutate_any W0.heap.size (0 + 200) _ _ _ _ c l _ (by omega) (by omega) RD2.out Hrd.out HCp.out).mono ?_
  rintro e w3 ⟨Ad, k2, capd, bd2, rfl, hk2, hfe, hg, hr, _⟩
  have FE3 := Lib.hid hfe
  have G3 := Lib.hid (G2.out.trans hg)
  have RD3 := Lib.hid hr
  have U0 := Lib.hid (hg.cel T0.out (by omega))
  have U1 := Lib.hid (hg.cel T1.out (by omega))
  have hz3 : W0.heap.size < w3.heap.size := by have := hr.lt; omega
  have hz23 : w2.heap.size ≤ w3.heap.size := hg.size
  have hz12 : w1.heap.size ≤ w2.heap.size := G2.out.size
  clear hfe hg hr T0 T1 G2 RD2 Hrd HCp
  go_upto_region 3 with fail
  have HAl := Lib.hid (bl_alloc (Below.refl w3.heap.size w3) (.cells #[.slice Ad k2 capd, .int .i64 bd2] 55))
  have p0 : (w3.alloc (.cells #[.slice Ad k2 capd, .int .i64 bd2] 55)).cell? ⟨w3.heap.size, 0, none⟩ = some (.slice Ad k2 capd) := by go_simp
  have p1 : (w3.alloc (.cells #[.slice Ad k2 capd, .int .i64 bd2] 55)).cell? ⟨w3.heap.size, 1, none⟩ = some (.int .i64 bd2) := by go_simp
  have f0' : (w3.alloc (.cells #[.slice Ad k2 capd, .int .i64 bd2] 55)).frozen? ⟨w3.heap.size, 0, none⟩ = false := by go_simp
  have f1' : (w3.alloc (.cells #[.slice Ad k2 capd, .int .i64 bd2] 55)).frozen? ⟨w3.heap.size, 1, none⟩ = false := by go_simp
  have hz4 : w3.heap.size < (w3.alloc (.cells #[.slice Ad k2 capd, .int .i64 bd2] 55)).heap.size := by simp
  have FE4 := Lib.hid (FE3.out.bel HAl.out)
  have G4 := Lib.hid (G3.out.bel HAl.out)
  have RD4 := Lib.hid (RD3.out.bel HAl.out)
  have V0 := Lib.hid (U0.out.below HAl.out)
  have V1 := Lib.hid (U1.out.below HAl.out)
  clear FE3 G3 RD3 U0 U1 HAl
  generalize (w3.alloc (.cells #[.slice Ad k2 capd, .int .i64 bd2] 55)) = W4 at *
  have P0 : Hid (Cel W4 w3.heap.size 0 (.slice Ad k2 capd)) := Lib.hid ⟨p0, f0'⟩
  have P1 : Hid (Cel W4 w3.heap.size 1 (.int .i64 bd2)) := Lib.hid ⟨p1, f1'⟩
  clear f0' f1'
  have hn1 : ¬ w3.heap.size = w.heap.size := by omega
  have hn2 : ¬ w.heap.size = w3.heap.size := by omega
  have hq1 : w.heap.size ≠ W0.heap.size := by omega
  have hq2 : w3.heap.size ≠ W0.heap.size := by omega
  have hq3 : W0.heap.size < w2.heap.size := by omega
  have HD := Lib.hid (RD4.out.bel ((Below.refl W4.heap.size W4).drew))
  go_region_held3 (fun w' => w'.cell? ⟨w3.heap.size, 0, none⟩ = some (.slice Ad k2 capd) ∧ w'.cell? ⟨w3.heap.size, 1, none⟩ = some (.int .i64 bd2)) (go_keep)
    (first | (go_at_call 58; refine (values_any W0.heap.size _ _ (by omega) HD.out).mono ?_; rintro e w5 ⟨Av, kv, capv, v, rfl, hkv, hF, hg, hr⟩; have hg' := (Gr.of (R := W0.heap.size) (Below.refl W4.heap.size W4).drew).trans hg; have FE5 := Lib.hid (FE4.out.gr hg' hq3); have G5 := Lib.hid (G4.out.trans hg'); have RD5 := Lib.hid hr; have HF := Lib.hid hF; obtain ⟨b0, f0⟩ := hg'.cel V0.out hq1; obtain ⟨b1, f1⟩ := hg'.cel V1.out hq1; replace p0 := (hg'.cel P0.out hq2).1; replace p1 := (hg'.cel P1.out hq2).1; have hz5 := hg'.size; clear hF hg hr hg'))
  go_wp2
  refine bodyPost_ret (v := .tuple #[.agg #[.slice Ad k2 capd, .int .i64 bd2], .slice Av kv capv]) (by simp [results, Try.results36, go_sem, b0, b1]) rfl ?_
  obtain ⟨c', l', hfr'⟩ := (FE5.out.set_ (p := ⟨w.heap.size, 0, none⟩) (by show w.heap.size < _; omega) (.slice Ad k2 capd)).set_ (p := ⟨w.heap.size, 1, none⟩) (by show w.heap.size < _; omega) (.int .i64 bd2)
  exact ⟨_, _, _, _, c', l', _, _, _, v, rfl, by omega, hkv, hfr'.rdAt, ((HF.out.set_ (p := ⟨w.heap.size, 0, none⟩) (by show w.heap.size < W4.heap.size; omega) _).set_ (p := ⟨w.heap.size, 1, none⟩) (by show w.heap.size < W4.heap.size; omega) _).rd, ((gr_bel HB1.out G5.out (by omega)).setCell (Nat.le_refl _) _).setCell (Nat.le_refl _) _⟩
end Go.Proofs.Ytbebdhjhlheboaa
