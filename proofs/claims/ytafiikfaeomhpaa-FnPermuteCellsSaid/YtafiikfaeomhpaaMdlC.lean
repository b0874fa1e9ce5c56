/- Contracts of the helpers that copy and compare rules of models of the exact laws (no claim of its own). Conditions: as each theorem states. -/
import Derived.Test.YtafiikfaeomhpaaMdlB
namespace Go.Proofs.Ytafiikfaeomhpaa
open Go.ChangeShapes Go.WideShapes Go.ChangeAt Go.RowKit

theorem kcb {W : World} {p : Addr} {v : Value} (h : W.cell? p = some v) : p.block < W.heap.size := by
  unfold World.cell? at h
  rcases Nat.lt_or_ge p.block W.heap.size with hlt | hge
  · exact hlt
  · rw [Array.getElem?_eq_none hge] at h; simp at h
theorem kfz {W w1 : World} (hb : Below W.heap.size W w1) {p : Addr} {v : Value} {b : Bool} (h : W.cell? p = some v) (hf : W.frozen? p = b) : w1.frozen? p = b := (hb.frozen (kcb h)).trans hf

set_option maxRecDepth 100000 in
set_option maxHeartbeats 1600000 in
theorem toRule_any (k bd : Int) (vn cn n : Nat) (v c : Nat → Int) (r : Nat → Lst) (Av Ac Ar : Option Addr) (cv cc cr : Nat) (w : World) (h1 : vn ≤ 1048576) (h2 : cn ≤ 1048576) (h3 : n ≤ 1048576) (h4 : ∀ i, i < n → (r i).n ≤ 1048576) (hv : RdI w w.heap.size Av vn v) (hc : RdI w w.heap.size Ac cn c) (hr : RdL w w.heap.size Ar n r) :
    Calls Try.prog 77 #[.agg #[.int .i64 k, .slice Av vn cv, .slice Ac cn cc, .int .i64 bd, .slice Ar n cr]] w fun e w' =>
      ∃ Gv Gc Gr, e = .returned (.agg #[.int .i64 k, .slice (some ⟨Gv, 0, none⟩) vn vn, .slice (some ⟨Gc, 0, none⟩) cn cn, .int .i64 bd, .slice (some ⟨Gr, 0, none⟩) n n]) ∧ w.heap.size ≤ Gv ∧ w.heap.size ≤ Gc ∧ w.heap.size ≤ Gr ∧ OwnI w' Gv vn vn v ∧ OwnI w' Gc cn cn c ∧ OwnL w' Gr n n r ∧ Below w.heap.size w w' := by
  have HV := Lib.hid hv
  have HC := Lib.hid hc
  have HR := Lib.hid hr
  have H4 := Lib.hid h4
  clear hv hc hr h4
  go_enter Try.func77, Try.ntmps77
  go_wp2_with fail
  have a1 : (((w.alloc (.cells #[.int .i64 k, .slice Av vn cv, .slice Ac cn cc, .int .i64 bd, .slice Ar n cr] 109)).alloc (.cells #[.int .i64 0, .slice none 0 0, .slice none 0 0, .int .i64 0, .slice none 0 0] 90)).alloc (.cells #[.int .i64 k, .slice none 0 0, .slice none 0 0, .int .i64 0, .slice none 0 0] 90)).cell? ⟨w.heap.size, 1, none⟩ = some (.slice Av vn cv) := by go_simp
  have a2 : (((w.alloc (.cells #[.int .i64 k, .slice Av vn cv, .slice Ac cn cc, .int .i64 bd, .slice Ar n cr] 109)).alloc (.cells #[.int .i64 0, .slice none 0 0, .slice none 0 0, .int .i64 0, .slice none 0 0] 90)).alloc (.cells #[.int .i64 k, .slice none 0 0, .slice none 0 0, .int .i64 0, .slice none 0 0] 90)).cell? ⟨w.heap.size, 2, none⟩ = some (.slice Ac cn cc) := by go_simp
  have a3 : (((w.alloc (.cells #[.int .i64 k, .slice Av vn cv, .slice Ac cn cc, .int .i64 bd, .slice Ar n cr] 109)).alloc (.cells #[.int .i64 0, .slice none 0 0, .slice none 0 0, .int .i64 0, .slice none 0 0] 90)).alloc (.cells #[.int .i64 k, .slice none 0 0, .slice none 0 0, .int .i64 0, .slice none 0 0] 90)).cell? ⟨w.heap.size, 3, none⟩ = some (.int .i64 bd) := by go_simp
  have a4 : (((w.alloc (.cells #[.int .i64 k, .slice Av vn cv, .slice Ac cn cc, .int .i64 bd, .slice Ar n cr] 109)).alloc (.cells #[.int .i64 0, .slice none 0 0, .slice none 0 0, .int .i64 0, .slice none 0 0] 90)).alloc (.cells #[.int .i64 k, .slice none 0 0, .slice none 0 0, .int .i64 0, .slice none 0 0] 90)).cell? ⟨w.heap.size, 4, none⟩ = some (.slice Ar n cr) := by go_simp
  have o0 : (((w.alloc (.cells #[.int .i64 k, .slice Av vn cv, .slice Ac cn cc, .int .i64 bd, .slice Ar n cr] 109)).alloc (.cells #[.int .i64 0, .slice none 0 0, .slice none 0 0, .int .i64 0, .slice none 0 0] 90)).alloc (.cells #[.int .i64 k, .slice none 0 0, .slice none 0 0, .int .i64 0, .slice none 0 0] 90)).cell? ⟨w.heap.size + 1 + 1, 0, none⟩ = some (.int .i64 k) := by go_simp
  have o1 : (((w.alloc (.cells #[.int .i64 k, .slice Av vn cv, .slice Ac cn cc, .int .i64 bd, .slice Ar n cr] 109)).alloc (.cells #[.int .i64 0, .slice none 0 0, .slice none 0 0, .int .i64 0, .slice none 0 0] 90)).alloc (.cells #[.int .i64 k, .slice none 0 0, .slice none 0 0, .int .i64 0, .slice none 0 0] 90)).cell? ⟨w.heap.size + 1 + 1, 1, none⟩ = some (.slice none 0 0) := by go_simp
  have o2 : (((w.alloc (.cells #[.int .i64 k, .slice Av vn cv, .slice Ac cn cc, .int .i64 bd, .slice Ar n cr] 109)).alloc (.cells #[.int .i64 0, .slice none 0 0, .slice none 0 0, .int .i64 0, .slice none 0 0] 90)).alloc (.cells #[.int .i64 k, .slice none 0 0, .slice none 0 0, .int .i64 0, .slice none 0 0] 90)).cell? ⟨w.heap.size + 1 + 1, 2, none⟩ = some (.slice none 0 0) := by go_simp
  have o3 : (((w.alloc (.cells #[.int .i64 k, .slice Av vn cv, .slice Ac cn cc, .int .i64 bd, .slice Ar n cr] 109)).alloc (.cells #[.int .i64 0, .slice none 0 0, .slice none 0 0, .int .i64 0, .slice none 0 0] 90)).alloc (.cells #[.int .i64 k, .slice none 0 0, .slice none 0 0, .int .i64 0, .slice none 0 0] 90)).cell? ⟨w.heap.size + 1 + 1, 3, none⟩ = some (.int .i64 0) := by go_simp
  have o4 : (((w.alloc (.cells #[.int .i64 k, .slice Av vn cv, .slice Ac cn cc, .int .i64 bd, .slice Ar n cr] 109)).alloc (.cells #[.int .i64 0, .slice none 0 0, .slice none 0 0, .int .i64 0, .slice none 0 0] 90)).alloc (.cells #[.int .i64 k, .slice none 0 0, .slice none 0 0, .int .i64 0, .slice none 0 0] 90)).cell? ⟨w.heap.size + 1 + 1, 4, none⟩ = some (.slice none 0 0) := by go_simp
  have r0 : (((w.alloc (.cells #[.int .i64 k, .slice Av vn cv, .slice Ac cn cc, .int .i64 bd, .slice Ar n cr] 109)).alloc (.cells #[.int .i64 0, .slice none 0 0, .slice none 0 0, .int .i64 0, .slice none 0 0] 90)).alloc (.cells #[.int .i64 k, .slice none 0 0, .slice none 0 0, .int .i64 0, .slice none 0 0] 90)).cell? ⟨w.heap.size + 1, 0, none⟩ = some (.int .i64 0) := by go_simp
  have r1 : (((w.alloc (.cells #[.int .i64 k, .slice Av vn cv, .slice Ac cn cc, .int .i64 bd, .slice Ar n cr] 109)).alloc (.cells #[.int .i64 0, .slice none 0 0, .slice none 0 0, .int .i64 0, .slice none 0 0] 90)).alloc (.cells #[.int .i64 k, .slice none 0 0, .slice none 0 0, .int .i64 0, .slice none 0 0] 90)).cell? ⟨w.heap.size + 1, 1, none⟩ = some (.slice none 0 0) := by go_simp
  have r2 : (((w.alloc (.cells #[.int .i64 k, .slice Av vn cv, .slice Ac cn cc, .int .i64 bd, .slice Ar n cr] 109)).alloc (.cells #[.int .i64 0, .slice none 0 0, .slice none 0 0, .int .i64 0, .slice none 0 0] 90)).alloc (.cells #[.int .i64 k, .slice none 0 0, .slice none 0 0, .int .i64 0, .slice none 0 0] 90)).cell? ⟨w.heap.size + 1, 2, none⟩ = some (.slice none 0 0) := by go_simp
  have r3 : (((w.alloc (.cells #[.int .i64 k, .slice Av vn cv, .slice Ac cn cc, .int .i64 bd, .slice Ar n cr] 109)).alloc (.cells #[.int .i64 0, .slice none 0 0, .slice none 0 0, .int .i64 0, .slice none 0 0] 90)).alloc (.cells #[.int .i64 k, .slice none 0 0, .slice none 0 0, .int .i64 0, .slice none 0 0] 90)).cell? ⟨w.heap.size + 1, 3, none⟩ = some (.int .i64 0) := by go_simp
  have r4 : (((w.alloc (.cells #[.int .i64 k, .slice Av vn cv, .slice Ac cn cc, .int .i64 bd, .slice Ar n cr] 109)).alloc (.cells #[.int .i64 0, .slice none 0 0, .slice none 0 0, .int .i64 0, .slice none 0 0] 90)).alloc (.cells #[.int .i64 k, .slice none 0 0, .slice none 0 0, .int .i64 0, .slice none 0 0] 90)).cell? ⟨w.heap.size + 1, 4, none⟩ = some (.slice none 0 0) := by go_simp
  have f0 : (((w.alloc (.cells #[.int .i64 k, .slice Av vn cv, .slice Ac cn cc, .int .i64 bd, .slice Ar n cr] 109)).alloc (.cells #[.int .i64 0, .slice none 0 0, .slice none 0 0, .int .i64 0, .slice none 0 0] 90)).alloc (.cells #[.int .i64 k, .slice none 0 0, .slice none 0 0, .int .i64 0, .slice none 0 0] 90)).frozen? ⟨w.heap.size + 1 + 1, 0, none⟩ = false := by go_simp
  have g0 : (((w.alloc (.cells #[.int .i64 k, .slice Av vn cv, .slice Ac cn cc, .int .i64 bd, .slice Ar n cr] 109)).alloc (.cells #[.int .i64 0, .slice none 0 0, .slice none 0 0, .int .i64 0, .slice none 0 0] 90)).alloc (.cells #[.int .i64 k, .slice none 0 0, .slice none 0 0, .int .i64 0, .slice none 0 0] 90)).frozen? ⟨w.heap.size + 1, 0, none⟩ = false := by go_simp
  have f1 : (((w.alloc (.cells #[.int .i64 k, .slice Av vn cv, .slice Ac cn cc, .int .i64 bd, .slice Ar n cr] 109)).alloc (.cells #[.int .i64 0, .slice none 0 0, .slice none 0 0, .int .i64 0, .slice none 0 0] 90)).alloc (.cells #[.int .i64 k, .slice none 0 0, .slice none 0 0, .int .i64 0, .slice none 0 0] 90)).frozen? ⟨w.heap.size + 1 + 1, 1, none⟩ = false := by go_simp
  have g1 : (((w.alloc (.cells #[.int .i64 k, .slice Av vn cv, .slice Ac cn cc, .int .i64 bd, .slice Ar n cr] 109)).alloc (.cells #[.int .i64 0, .slice none 0 0, .slice none 0 0, .int .i64 0, .slice none 0 0] 90)).alloc (.cells #[.int .i64 k, .slice none 0 0, .slice none 0 0, .int .i64 0, .slice none 0 0] 90)).frozen? ⟨w.heap.size + 1, 1, none⟩ = false := by go_simp
  have f2 : (((w.alloc (.cells #[.int .i64 k, .slice Av vn cv, .slice Ac cn cc, .int .i64 bd, .slice Ar n cr] 109)).alloc (.cells #[.int .i64 0, .slice none 0 0, .slice none 0 0, .int .i64 0, .slice none 0 0] 90)).alloc (.cells #[.int .i64 k, .slice none 0 0, .slice none 0 0, .int .i64 0, .slice none 0 0] 90)).frozen? ⟨w.heap.size + 1 + 1, 2, none⟩ = false := by go_simp
  have g2 : (((w.alloc (.cells #[.int .i64 k, .slice Av vn cv, .slice Ac cn cc, .int .i64 bd, .slice Ar n cr] 109)).alloc (.cells #[.int .i64 0, .slice none 0 0, .slice none 0 0, .int .i64 0, .slice none 0 0] 90)).alloc (.cells #[.int .i64 k, .slice none 0 0, .slice none 0 0, .int .i64 0, .slice none 0 0] 90)).frozen? ⟨w.heap.size + 1, 2, none⟩ = false := by go_simp
  have f3 : (((w.alloc (.cells #[.int .i64 k, .slice Av vn cv, .slice Ac cn cc, .int .i64 bd, .slice Ar n cr] 109)).alloc (.cells #[.int .i64 0, .slice none 0 0, .slice none 0 0, .int .i64 0, .slice none 0 0] 90)).alloc (.cells #[.int .i64 k, .slice none 0 0, .slice none 0 0, .int .i64 0, .slice none 0 0] 90)).frozen? ⟨w.heap.size + 1 + 1, 3, none⟩ = false := by go_simp
  have g3 : (((w.alloc (.cells #[.int .i64 k, .slice Av vn cv, .slice Ac cn cc, .int .i64 bd, .slice Ar n cr] 109)).alloc (.cells #[.int .i64 0, .slice none 0 0, .slice none 0 0, .int .i64 0, .slice none 0 0] 90)).alloc (.cells #[.int .i64 k, .slice none 0 0, .slice none 0 0, .int .i64 0, .slice none 0 0] 90)).frozen? ⟨w.heap.size + 1, 3, none⟩ = false := by go_simp
  have f4 : (((w.alloc (.cells #[.int .i64 k, .slice Av vn cv, .slice Ac cn cc, .int .i64 bd, .slice Ar n cr] 109)).alloc (.cells #[.int .i64 0, .slice none 0 0, .slice none 0 0, .int .i64 0, .slice none 0 0] 90)).alloc (.cells #[.int .i64 k, .slice none 0 0, .slice none 0 0, .int .i64 0, .slice none 0 0] 90)).frozen? ⟨w.heap.size + 1 + 1, 4, none⟩ = false := by go_simp
  have g4 : (((w.alloc (.cells #[.int .i64 k, .slice Av vn cv, .slice Ac cn cc, .int .i64 bd, .slice Ar n cr] 109)).alloc (.cells #[.int .i64 0, .slice none 0 0, .slice none 0 0, .int .i64 0, .slice none 0 0] 90)).alloc (.cells #[.int .i64 k, .slice none 0 0, .slice none 0 0, .int .i64 0, .slice none 0 0] 90)).frozen? ⟨w.heap.size + 1, 4, none⟩ = false := by go_simp
  have HS : Hid (w.heap.size + 3 ≤ (((w.alloc (.cells #[.int .i64 k, .slice Av vn cv, .slice Ac cn cc, .int .i64 bd, .slice Ar n cr] 109)).alloc (.cells #[.int .i64 0, .slice none 0 0, .slice none 0 0, .int .i64 0, .slice none 0 0] 90)).alloc (.cells #[.int .i64 k, .slice none 0 0, .slice none 0 0, .int .i64 0, .slice none 0 0] 90)).heap.size) := Lib.hid (by simp)
  have HB := Lib.hid (bl_alloc (bl_alloc (bl_alloc (Below.refl w.heap.size w) (.cells #[.int .i64 k, .slice Av vn cv, .slice Ac cn cc, .int .i64 bd, .slice Ar n cr] 109)) (.cells #[.int .i64 0, .slice none 0 0, .slice none 0 0, .int .i64 0, .slice none 0 0] 90)) (.cells #[.int .i64 k, .slice none 0 0, .slice none 0 0, .int .i64 0, .slice none 0 0] 90))
  generalize (((w.alloc (.cells #[.int .i64 k, .slice Av vn cv, .slice Ac cn cc, .int .i64 bd, .slice Ar n cr] 109)).alloc (.cells #[.int .i64 0, .slice none 0 0, .slice none 0 0, .int .i64 0, .slice none 0 0] 90)).alloc (.cells #[.int .i64 k, .slice none 0 0, .slice none 0 0, .int .i64 0, .slice none 0 0] 90)) = w1 at *
  refine (toIntS_any _ _ _ v _ h1 (HV.out.later HB.out)).mono ?_
  rintro e w2 ⟨Gv, rfl, hGv, hov, hb⟩
  have hGv3 : w.heap.size + 3 ≤ Gv := Nat.le_trans HS.out hGv
  have OV := Lib.hid hov
  clear hov hGv
  have HSn := Lib.hid (Nat.le_trans HS.out hb.size)
  have HBn := Lib.hid (bl_trans HB.out hb)
  replace f0 := kfz hb o0 f0
  replace g0 := kfz hb r0 g0
  replace f1 := kfz hb o1 f1
  replace g1 := kfz hb r1 g1
  replace f2 := kfz hb o2 f2
  replace g2 := kfz hb r2 g2
  replace f3 := kfz hb o3 f3
  replace g3 := kfz hb r3 g3
  replace f4 := kfz hb o4 f4
  replace g4 := kfz hb r4 g4
  replace a1 := kc hb a1
  replace a2 := kc hb a2
  replace a3 := kc hb a3
  replace a4 := kc hb a4
  replace o0 := kc hb o0
  replace o1 := kc hb o1
  replace o2 := kc hb o2
  replace o3 := kc hb o3
  replace o4 := kc hb o4
  replace r0 := kc hb r0
  replace r1 := kc hb r1
  replace r2 := kc hb r2
  replace r3 := kc hb r3
  replace r4 := kc hb r4
  clear HS HB hb 
  have HS := HSn
  have HB := HBn
  clear HSn HBn 
  go_wp2_with fail
  have a1n : (w2.setCell ⟨w.heap.size + 1 + 1, 1, none⟩ (.slice (some ⟨Gv, 0, none⟩) vn vn)).cell? ⟨w.heap.size, 1, none⟩ = some (.slice Av vn cv) := by go_simp
  have a2n : (w2.setCell ⟨w.heap.size + 1 + 1, 1, none⟩ (.slice (some ⟨Gv, 0, none⟩) vn vn)).cell? ⟨w.heap.size, 2, none⟩ = some (.slice Ac cn cc) := by go_simp
  have a3n : (w2.setCell ⟨w.heap.size + 1 + 1, 1, none⟩ (.slice (some ⟨Gv, 0, none⟩) vn vn)).cell? ⟨w.heap.size, 3, none⟩ = some (.int .i64 bd) := by go_simp
  have a4n : (w2.setCell ⟨w.heap.size + 1 + 1, 1, none⟩ (.slice (some ⟨Gv, 0, none⟩) vn vn)).cell? ⟨w.heap.size, 4, none⟩ = some (.slice Ar n cr) := by go_simp
  have o0n : (w2.setCell ⟨w.heap.size + 1 + 1, 1, none⟩ (.slice (some ⟨Gv, 0, none⟩) vn vn)).cell? ⟨w.heap.size + 1 + 1, 0, none⟩ = some (.int .i64 k) := by go_simp
  have o1n : (w2.setCell ⟨w.heap.size + 1 + 1, 1, none⟩ (.slice (some ⟨Gv, 0, none⟩) vn vn)).cell? ⟨w.heap.size + 1 + 1, 1, none⟩ = some (.slice (some ⟨Gv, 0, none⟩) vn vn) := by go_simp
  have o2n : (w2.setCell ⟨w.heap.size + 1 + 1, 1, none⟩ (.slice (some ⟨Gv, 0, none⟩) vn vn)).cell? ⟨w.heap.size + 1 + 1, 2, none⟩ = some (.slice none 0 0) := by go_simp
  have o3n : (w2.setCell ⟨w.heap.size + 1 + 1, 1, none⟩ (.slice (some ⟨Gv, 0, none⟩) vn vn)).cell? ⟨w.heap.size + 1 + 1, 3, none⟩ = some (.int .i64 0) := by go_simp
  have o4n : (w2.setCell ⟨w.heap.size + 1 + 1, 1, none⟩ (.slice (some ⟨Gv, 0, none⟩) vn vn)).cell? ⟨w.heap.size + 1 + 1, 4, none⟩ = some (.slice none 0 0) := by go_simp
  have r0n : (w2.setCell ⟨w.heap.size + 1 + 1, 1, none⟩ (.slice (some ⟨Gv, 0, none⟩) vn vn)).cell? ⟨w.heap.size + 1, 0, none⟩ = some (.int .i64 0) := by go_simp
  have r1n : (w2.setCell ⟨w.heap.size + 1 + 1, 1, none⟩ (.slice (some ⟨Gv, 0, none⟩) vn vn)).cell? ⟨w.heap.size + 1, 1, none⟩ = some (.slice none 0 0) := by go_simp
  have r2n : (w2.setCell ⟨w.heap.size + 1 + 1, 1, none⟩ (.slice (some ⟨Gv, 0, none⟩) vn vn)).cell? ⟨w.heap.size + 1, 2, none⟩ = some (.slice none 0 0) := by go_simp
  have r3n : (w2.setCell ⟨w.heap.size + 1 + 1, 1, none⟩ (.slice (some ⟨Gv, 0, none⟩) vn vn)).cell? ⟨w.heap.size + 1, 3, none⟩ = some (.int .i64 0) := by go_simp
  have r4n : (w2.setCell ⟨w.heap.size + 1 + 1, 1, none⟩ (.slice (some ⟨Gv, 0, none⟩) vn vn)).cell? ⟨w.heap.size + 1, 4, none⟩ = some (.slice none 0 0) := by go_simp
  have f0n : (w2.setCell ⟨w.heap.size + 1 + 1, 1, none⟩ (.slice (some ⟨Gv, 0, none⟩) vn vn)).frozen? ⟨w.heap.size + 1 + 1, 0, none⟩ = false := by go_simp
  have g0n : (w2.setCell ⟨w.heap.size + 1 + 1, 1, none⟩ (.slice (some ⟨Gv, 0, none⟩) vn vn)).frozen? ⟨w.heap.size + 1, 0, none⟩ = false := by go_simp
  have f1n : (w2.setCell ⟨w.heap.size + 1 + 1, 1, none⟩ (.slice (some ⟨Gv, 0, none⟩) vn vn)).frozen? ⟨w.heap.size + 1 + 1, 1, none⟩ = false := by go_simp
  have g1n : (w2.setCell ⟨w.heap.size + 1 + 1, 1, none⟩ (.slice (some ⟨Gv, 0, none⟩) vn vn)).frozen? ⟨w.heap.size + 1, 1, none⟩ = false := by go_simp
  have f2n : (w2.setCell ⟨w.heap.size + 1 + 1, 1, none⟩ (.slice (some ⟨Gv, 0, none⟩) vn vn)).frozen? ⟨w.heap.size + 1 + 1, 2, none⟩ = false := by go_simp
  have g2n : (w2.setCell ⟨w.heap.size + 1 + 1, 1, none⟩ (.slice (some ⟨Gv, 0, none⟩) vn vn)).frozen? ⟨w.heap.size + 1, 2, none⟩ = false := by go_simp
  have f3n : (w2.setCell ⟨w.heap.size + 1 + 1, 1, none⟩ (.slice (some ⟨Gv, 0, none⟩) vn vn)).frozen? ⟨w.heap.size + 1 + 1, 3, none⟩ = false := by go_simp
  have g3n : (w2.setCell ⟨w.heap.size + 1 + 1, 1, none⟩ (.slice (some ⟨Gv, 0, none⟩) vn vn)).frozen? ⟨w.heap.size + 1, 3, none⟩ = false := by go_simp
  have f4n : (w2.setCell ⟨w.heap.size + 1 + 1, 1, none⟩ (.slice (some ⟨Gv, 0, none⟩) vn vn)).frozen? ⟨w.heap.size + 1 + 1, 4, none⟩ = false := by go_simp
  have g4n : (w2.setCell ⟨w.heap.size + 1 + 1, 1, none⟩ (.slice (some ⟨Gv, 0, none⟩) vn vn)).frozen? ⟨w.heap.size + 1, 4, none⟩ = false := by go_simp
  have HSn : Hid (w.heap.size + 3 ≤ (w2.setCell ⟨w.heap.size + 1 + 1, 1, none⟩ (.slice (some ⟨Gv, 0, none⟩) vn vn)).heap.size) := Lib.hid (by have := HS.out; simpa using this)
  have HBn : Hid (Below w.heap.size w (w2.setCell ⟨w.heap.size + 1 + 1, 1, none⟩ (.slice (some ⟨Gv, 0, none⟩) vn vn))) := Lib.hid (HB.out.setCell (by show w.heap.size ≤ w.heap.size + 1 + 1; omega) _)
  have OVn : Hid (OwnI (w2.setCell ⟨w.heap.size + 1 + 1, 1, none⟩ (.slice (some ⟨Gv, 0, none⟩) vn vn)) Gv vn vn v) := Lib.hid (OV.out.far (by show _; simp only; omega) _)
  clear a1 a2 a3 a4 o0 o1 o2 o3 o4 r0 r1 r2 r3 r4 f0 f1 f2 f3 f4 g0 g1 g2 g3 g4 HS HB OV
  have a1 := a1n
  have a2 := a2n
  have a3 := a3n
  have a4 := a4n
  have o0 := o0n
  have o1 := o1n
  have o2 := o2n
  have o3 := o3n
  have o4 := o4n
  have r0 := r0n
  have r1 := r1n
  have r2 := r2n
  have r3 := r3n
  have r4 := r4n
  have f0 := f0n
  have f1 := f1n
  have f2 := f2n
  have f3 := f3n
  have f4 := f4n
  have g0 := g0n
  have g1 := g1n
  have g2 := g2n
  have g3 := g3n
  have g4 := g4n
  have HS := HSn
  have HB := HBn
  have OV := OVn
  clear a1n a2n a3n a4n o0n o1n o2n o3n o4n r0n r1n r2n r3n r4n f0n f1n f2n f3n f4n g0n g1n g2n g3n g4n HSn HBn OVn
  generalize (w2.setCell ⟨w.heap.size + 1 + 1, 1, none⟩ (.slice (some ⟨Gv, 0, none⟩) vn vn)) = w3 at *
  refine (toIntS_any _ _ _ c _ h2 (HC.out.later HB.out)).mono ?_
  rintro e w4 ⟨Gc, rfl, hGc, hoc, hb⟩
  have hGc3 : w.heap.size + 3 ≤ Gc := Nat.le_trans HS.out hGc
  have OC := Lib.hid hoc
  clear hoc hGc
  have HSn := Lib.hid (Nat.le_trans HS.out hb.size)
  have HBn := Lib.hid (bl_trans HB.out hb)
  replace f0 := kfz hb o0 f0
  replace g0 := kfz hb r0 g0
  replace f1 := kfz hb o1 f1
  replace g1 := kfz hb r1 g1
  replace f2 := kfz hb o2 f2
  replace g2 := kfz hb r2 g2
  replace f3 := kfz hb o3 f3
  replace g3 := kfz hb r3 g3
  replace f4 := kfz hb o4 f4
  replace g4 := kfz hb r4 g4
  replace a1 := kc hb a1
  replace a2 := kc hb a2
  replace a3 := kc hb a3
  replace a4 := kc hb a4
  replace o0 := kc hb o0
  replace o1 := kc hb o1
  replace o2 := kc hb o2
  replace o3 := kc hb o3
  replace o4 := kc hb o4
  replace r0 := kc hb r0
  replace r1 := kc hb r1
  replace r2 := kc hb r2
  replace r3 := kc hb r3
  replace r4 := kc hb r4
  have OVn := Lib.hid (OV.out.below hb OV.out.lt)
  clear HS HB hb OV
  have HS := HSn
  have HB := HBn
  have OV := OVn
  clear HSn HBn OVn
  go_wp2_with fail
  have hdum : True := trivial
  have a1n : (w4.setCell ⟨w.heap.size + 1 + 1, 2, none⟩ (.slice (some ⟨Gc, 0, none⟩) cn cn)).cell? ⟨w.heap.size, 1, none⟩ = some (.slice Av vn cv) := by go_simp
  have a2n : (w4.setCell ⟨w.heap.size + 1 + 1, 2, none⟩ (.slice (some ⟨Gc, 0, none⟩) cn cn)).cell? ⟨w.heap.size, 2, none⟩ = some (.slice Ac cn cc) := by go_simp
  have a3n : (w4.setCell ⟨w.heap.size + 1 + 1, 2, none⟩ (.slice (some ⟨Gc, 0, none⟩) cn cn)).cell? ⟨w.heap.size, 3, none⟩ = some (.int .i64 bd) := by go_simp
  have a4n : (w4.setCell ⟨w.heap.size + 1 + 1, 2, none⟩ (.slice (some ⟨Gc, 0, none⟩) cn cn)).cell? ⟨w.heap.size, 4, none⟩ = some (.slice Ar n cr) := by go_simp
  have o0n : (w4.setCell ⟨w.heap.size + 1 + 1, 2, none⟩ (.slice (some ⟨Gc, 0, none⟩) cn cn)).cell? ⟨w.heap.size + 1 + 1, 0, none⟩ = some (.int .i64 k) := by go_simp
  have o1n : (w4.setCell ⟨w.heap.size + 1 + 1, 2, none⟩ (.slice (some ⟨Gc, 0, none⟩) cn cn)).cell? ⟨w.heap.size + 1 + 1, 1, none⟩ = some (.slice (some ⟨Gv, 0, none⟩) vn vn) := by go_simp
  have o2n : (w4.setCell ⟨w.heap.size + 1 + 1, 2, none⟩ (.slice (some ⟨Gc, 0, none⟩) cn cn)).cell? ⟨w.heap.size + 1 + 1, 2, none⟩ = some (.slice (some ⟨Gc, 0, none⟩) cn cn) := by go_simp
  have o3n : (w4.setCell ⟨w.heap.size + 1 + 1, 2, none⟩ (.slice (some ⟨Gc, 0, none⟩) cn cn)).cell? ⟨w.heap.size + 1 + 1, 3, none⟩ = some (.int .i64 0) := by go_simp
  have o4n : (w4.setCell ⟨w.heap.size + 1 + 1, 2, none⟩ (.slice (some ⟨Gc, 0, none⟩) cn cn)).cell? ⟨w.heap.size + 1 + 1, 4, none⟩ = some (.slice none 0 0) := by go_simp
  have r0n : (w4.setCell ⟨w.heap.size + 1 + 1, 2, none⟩ (.slice (some ⟨Gc, 0, none⟩) cn cn)).cell? ⟨w.heap.size + 1, 0, none⟩ = some (.int .i64 0) := by go_simp
  have r1n : (w4.setCell ⟨w.heap.size + 1 + 1, 2, none⟩ (.slice (some ⟨Gc, 0, none⟩) cn cn)).cell? ⟨w.heap.size + 1, 1, none⟩ = some (.slice none 0 0) := by go_simp
  have r2n : (w4.setCell ⟨w.heap.size + 1 + 1, 2, none⟩ (.slice (some ⟨Gc, 0, none⟩) cn cn)).cell? ⟨w.heap.size + 1, 2, none⟩ = some (.slice none 0 0) := by go_simp
  have r3n : (w4.setCell ⟨w.heap.size + 1 + 1, 2, none⟩ (.slice (some ⟨Gc, 0, none⟩) cn cn)).cell? ⟨w.heap.size + 1, 3, none⟩ = some (.int .i64 0) := by go_simp
  have r4n : (w4.setCell ⟨w.heap.size + 1 + 1, 2, none⟩ (.slice (some ⟨Gc, 0, none⟩) cn cn)).cell? ⟨w.heap.size + 1, 4, none⟩ = some (.slice none 0 0) := by go_simp
  have f0n : (w4.setCell ⟨w.heap.size + 1 + 1, 2, none⟩ (.slice (some ⟨Gc, 0, none⟩) cn cn)).frozen? ⟨w.heap.size + 1 + 1, 0, none⟩ = false := by go_simp
  have g0n : (w4.setCell ⟨w.heap.size + 1 + 1, 2, none⟩ (.slice (some ⟨Gc, 0, none⟩) cn cn)).frozen? ⟨w.heap.size + 1, 0, none⟩ = false := by go_simp
  have f1n : (w4.setCell ⟨w.heap.size + 1 + 1, 2, none⟩ (.slice (some ⟨Gc, 0, none⟩) cn cn)).frozen? ⟨w.heap.size + 1 + 1, 1, none⟩ = false := by go_simp
  have g1n : (w4.setCell ⟨w.heap.size + 1 + 1, 2, none⟩ (.slice (some ⟨Gc, 0, none⟩) cn cn)).frozen? ⟨w.heap.size + 1, 1, none⟩ = false := by go_simp
  have f2n : (w4.setCell ⟨w.heap.size + 1 + 1, 2, none⟩ (.slice (some ⟨Gc, 0, none⟩) cn cn)).frozen? ⟨w.heap.size + 1 + 1, 2, none⟩ = false := by go_simp
  have g2n : (w4.setCell ⟨w.heap.size + 1 + 1, 2, none⟩ (.slice (some ⟨Gc, 0, none⟩) cn cn)).frozen? ⟨w.heap.size + 1, 2, none⟩ = false := by go_simp
  have f3n : (w4.setCell ⟨w.heap.size + 1 + 1, 2, none⟩ (.slice (some ⟨Gc, 0, none⟩) cn cn)).frozen? ⟨w.heap.size + 1 + 1, 3, none⟩ = false := by go_simp
  have g3n : (w4.setCell ⟨w.heap.size + 1 + 1, 2, none⟩ (.slice (some ⟨Gc, 0, none⟩) cn cn)).frozen? ⟨w.heap.size + 1, 3, none⟩ = false := by go_simp
  have f4n : (w4.setCell ⟨w.heap.size + 1 + 1, 2, none⟩ (.slice (some ⟨Gc, 0, none⟩) cn cn)).frozen? ⟨w.heap.size + 1 + 1, 4, none⟩ = false := by go_simp
  have g4n : (w4.setCell ⟨w.heap.size + 1 + 1, 2, none⟩ (.slice (some ⟨Gc, 0, none⟩) cn cn)).frozen? ⟨w.heap.size + 1, 4, none⟩ = false := by go_simp
  have HSn : Hid (w.heap.size + 3 ≤ (w4.setCell ⟨w.heap.size + 1 + 1, 2, none⟩ (.slice (some ⟨Gc, 0, none⟩) cn cn)).heap.size) := Lib.hid (by have := HS.out; simpa using this)
  have HBn : Hid (Below w.heap.size w (w4.setCell ⟨w.heap.size + 1 + 1, 2, none⟩ (.slice (some ⟨Gc, 0, none⟩) cn cn))) := Lib.hid (HB.out.setCell (by show w.heap.size ≤ w.heap.size + 1 + 1; omega) _)
  have OVn : Hid (OwnI (w4.setCell ⟨w.heap.size + 1 + 1, 2, none⟩ (.slice (some ⟨Gc, 0, none⟩) cn cn)) Gv vn vn v) := Lib.hid (OV.out.far (by show _; simp only; omega) _)
  have OCn : Hid (OwnI (w4.setCell ⟨w.heap.size + 1 + 1, 2, none⟩ (.slice (some ⟨Gc, 0, none⟩) cn cn)) Gc cn cn c) := Lib.hid (OC.out.far (by show _; simp only; omega) _)
  clear a1 a2 a3 a4 o0 o1 o2 o3 o4 r0 r1 r2 r3 r4 f0 f1 f2 f3 f4 g0 g1 g2 g3 g4 HS HB OV OC
  have a1 := a1n
  have a2 := a2n
  have a3 := a3n
  have a4 := a4n
  have o0 := o0n
  have o1 := o1n
  have o2 := o2n
  have o3 := o3n
  have o4 := o4n
  have r0 := r0n
  have r1 := r1n
  have r2 := r2n
  have r3 := r3n
  have r4 := r4n
  have f0 := f0n
  have f1 := f1n
  have f2 := f2n
  have f3 := f3n
  have f4 := f4n
  have g0 := g0n
  have g1 := g1n
  have g2 := g2n
  have g3 := g3n
  have g4 := g4n
  have HS := HSn
  have HB := HBn
  have OV := OVn
  have OC := OCn
  clear a1n a2n a3n a4n o0n o1n o2n o3n o4n r0n r1n r2n r3n r4n f0n f1n f2n f3n f4n g0n g1n g2n g3n g4n HSn HBn OVn OCn
  generalize (w4.setCell ⟨w.heap.size + 1 + 1, 2, none⟩ (.slice (some ⟨Gc, 0, none⟩) cn cn)) = w5 at *
  have a1n : (w5.setCell ⟨w.heap.size + 1 + 1, 3, none⟩ (.int .i64 bd)).cell? ⟨w.heap.size, 1, none⟩ = some (.slice Av vn cv) := by go_simp
  have a2n : (w5.setCell ⟨w.heap.size + 1 + 1, 3, none⟩ (.int .i64 bd)).cell? ⟨w.heap.size, 2, none⟩ = some (.slice Ac cn cc) := by go_simp
  have a3n : (w5.setCell ⟨w.heap.size + 1 + 1, 3, none⟩ (.int .i64 bd)).cell? ⟨w.heap.size, 3, none⟩ = some (.int .i64 bd) := by go_simp
  have a4n : (w5.setCell ⟨w.heap.size + 1 + 1, 3, none⟩ (.int .i64 bd)).cell? ⟨w.heap.size, 4, none⟩ = some (.slice Ar n cr) := by go_simp
  have o0n : (w5.setCell ⟨w.heap.size + 1 + 1, 3, none⟩ (.int .i64 bd)).cell? ⟨w.heap.size + 1 + 1, 0, none⟩ = some (.int .i64 k) := by go_simp
  have o1n : (w5.setCell ⟨w.heap.size + 1 + 1, 3, none⟩ (.int .i64 bd)).cell? ⟨w.heap.size + 1 + 1, 1, none⟩ = some (.slice (some ⟨Gv, 0, none⟩) vn vn) := by go_simp
  have o2n : (w5.setCell ⟨w.heap.size + 1 + 1, 3, none⟩ (.int .i64 bd)).cell? ⟨w.heap.size + 1 + 1, 2, none⟩ = some (.slice (some ⟨Gc, 0, none⟩) cn cn) := by go_simp
  have o3n : (w5.setCell ⟨w.heap.size + 1 + 1, 3, none⟩ (.int .i64 bd)).cell? ⟨w.heap.size + 1 + 1, 3, none⟩ = some (.int .i64 bd) := by go_simp
  have o4n : (w5.setCell ⟨w.heap.size + 1 + 1, 3, none⟩ (.int .i64 bd)).cell? ⟨w.heap.size + 1 + 1, 4, none⟩ = some (.slice none 0 0) := by go_simp
  have r0n : (w5.setCell ⟨w.heap.size + 1 + 1, 3, none⟩ (.int .i64 bd)).cell? ⟨w.heap.size + 1, 0, none⟩ = some (.int .i64 0) := by go_simp
  have r1n : (w5.setCell ⟨w.heap.size + 1 + 1, 3, none⟩ (.int .i64 bd)).cell? ⟨w.heap.size + 1, 1, none⟩ = some (.slice none 0 0) := by go_simp
  have r2n : (w5.setCell ⟨w.heap.size + 1 + 1, 3, none⟩ (.int .i64 bd)).cell? ⟨w.heap.size + 1, 2, none⟩ = some (.slice none 0 0) := by go_simp
  have r3n : (w5.setCell ⟨w.heap.size + 1 + 1, 3, none⟩ (.int .i64 bd)).cell? ⟨w.heap.size + 1, 3, none⟩ = some (.int .i64 0) := by go_simp
  have r4n : (w5.setCell ⟨w.heap.size + 1 + 1, 3, none⟩ (.int .i64 bd)).cell? ⟨w.heap.size + 1, 4, none⟩ = some (.slice none 0 0) := by go_simp
  have f0n : (w5.setCell ⟨w.heap.size + 1 + 1, 3, none⟩ (.int .i64 bd)).frozen? ⟨w.heap.size + 1 + 1, 0, none⟩ = false := by go_simp
  have g0n : (w5.setCell ⟨w.heap.size + 1 + 1, 3, none⟩ (.int .i64 bd)).frozen? ⟨w.heap.size + 1, 0, none⟩ = false := by go_simp
  have f1n : (w5.setCell ⟨w.heap.size + 1 + 1, 3, none⟩ (.int .i64 bd)).frozen? ⟨w.heap.size + 1 + 1, 1, none⟩ = false := by go_simp
  have g1n : (w5.setCell ⟨w.heap.size + 1 + 1, 3, none⟩ (.int .i64 bd)).frozen? ⟨w.heap.size + 1, 1, none⟩ = false := by go_simp
  have f2n : (w5.setCell ⟨w.heap.size + 1 + 1, 3, none⟩ (.int .i64 bd)).frozen? ⟨w.heap.size + 1 + 1, 2, none⟩ = false := by go_simp
  have g2n : (w5.setCell ⟨w.heap.size + 1 + 1, 3, none⟩ (.int .i64 bd)).frozen? ⟨w.heap.size + 1, 2, none⟩ = false := by go_simp
  have f3n : (w5.setCell ⟨w.heap.size + 1 + 1, 3, none⟩ (.int .i64 bd)).frozen? ⟨w.heap.size + 1 + 1, 3, none⟩ = false := by go_simp
  have g3n : (w5.setCell ⟨w.heap.size + 1 + 1, 3, none⟩ (.int .i64 bd)).frozen? ⟨w.heap.size + 1, 3, none⟩ = false := by go_simp
  have f4n : (w5.setCell ⟨w.heap.size + 1 + 1, 3, none⟩ (.int .i64 bd)).frozen? ⟨w.heap.size + 1 + 1, 4, none⟩ = false := by go_simp
  have g4n : (w5.setCell ⟨w.heap.size + 1 + 1, 3, none⟩ (.int .i64 bd)).frozen? ⟨w.heap.size + 1, 4, none⟩ = false := by go_simp
  have HSn : Hid (w.heap.size + 3 ≤ (w5.setCell ⟨w.heap.size + 1 + 1, 3, none⟩ (.int .i64 bd)).heap.size) := Lib.hid (by have := HS.out; simpa using this)
  have HBn : Hid (Below w.heap.size w (w5.setCell ⟨w.heap.size + 1 + 1, 3, none⟩ (.int .i64 bd))) := Lib.hid (HB.out.setCell (by show w.heap.size ≤ w.heap.size + 1 + 1; omega) _)
  have OVn : Hid (OwnI (w5.setCell ⟨w.heap.size + 1 + 1, 3, none⟩ (.int .i64 bd)) Gv vn vn v) := Lib.hid (OV.out.far (by show _; simp only; omega) _)
  have OCn : Hid (OwnI (w5.setCell ⟨w.heap.size + 1 + 1, 3, none⟩ (.int .i64 bd)) Gc cn cn c) := Lib.hid (OC.out.far (by show _; simp only; omega) _)
  clear a1 a2 a3 a4 o0 o1 o2 o3 o4 r0 r1 r2 r3 r4 f0 f1 f2 f3 f4 g0 g1 g2 g3 g4 HS HB OV OC
  have a1 := a1n
  have a2 := a2n
  have a3 := a3n
  have a4 := a4n
  have o0 := o0n
  have o1 := o1n
  have o2 := o2n
  have o3 := o3n
  have o4 := o4n
  have r0 := r0n
  have r1 := r1n
  have r2 := r2n
  have r3 := r3n
  have r4 := r4n
  have f0 := f0n
  have f1 := f1n
  have f2 := f2n
  have f3 := f3n
  have f4 := f4n
  have g0 := g0n
  have g1 := g1n
  have g2 := g2n
  have g3 := g3n
  have g4 := g4n
  have HS := HSn
  have HB := HBn
  have OV := OVn
  have OC := OCn
  clear a1n a2n a3n a4n o0n o1n o2n o3n o4n r0n r1n r2n r3n r4n f0n f1n f2n f3n f4n g0n g1n g2n g3n g4n HSn HBn OVn OCn
  generalize (w5.setCell ⟨w.heap.size + 1 + 1, 3, none⟩ (.int .i64 bd)) = w6 at *
  refine (toIntSS_any _ _ _ r _ h3 H4.out (HR.out.later HB.out)).mono ?_
  rintro e w7 ⟨Gr, rfl, hGr, hor, hb⟩
  have hGr3 : w.heap.size + 3 ≤ Gr := Nat.le_trans HS.out hGr
  have OR := Lib.hid hor
  clear hor hGr
  have HSn := Lib.hid (Nat.le_trans HS.out hb.size)
  have HBn := Lib.hid (bl_trans HB.out hb)
  replace f0 := kfz hb o0 f0
  replace g0 := kfz hb r0 g0
  replace f1 := kfz hb o1 f1
  replace g1 := kfz hb r1 g1
  replace f2 := kfz hb o2 f2
  replace g2 := kfz hb r2 g2
  replace f3 := kfz hb o3 f3
  replace g3 := kfz hb r3 g3
  replace f4 := kfz hb o4 f4
  replace g4 := kfz hb r4 g4
  replace a1 := kc hb a1
  replace a2 := kc hb a2
  replace a3 := kc hb a3
  replace a4 := kc hb a4
  replace o0 := kc hb o0
  replace o1 := kc hb o1
  replace o2 := kc hb o2
  replace o3 := kc hb o3
  replace o4 := kc hb o4
  replace r0 := kc hb r0
  replace r1 := kc hb r1
  replace r2 := kc hb r2
  replace r3 := kc hb r3
  replace r4 := kc hb r4
  have OVn := Lib.hid (OV.out.below hb OV.out.lt)
  have OCn := Lib.hid (OC.out.below hb OC.out.lt)
  clear HS HB hb OV OC
  have HS := HSn
  have HB := HBn
  have OV := OVn
  have OC := OCn
  clear HSn HBn OVn OCn
  go_wp2_with fail
  have a1n : (w7.setCell ⟨w.heap.size + 1 + 1, 4, none⟩ (.slice (some ⟨Gr, 0, none⟩) n n)).cell? ⟨w.heap.size, 1, none⟩ = some (.slice Av vn cv) := by go_simp
  have a2n : (w7.setCell ⟨w.heap.size + 1 + 1, 4, none⟩ (.slice (some ⟨Gr, 0, none⟩) n n)).cell? ⟨w.heap.size, 2, none⟩ = some (.slice Ac cn cc) := by go_simp
  have a3n : (w7.setCell ⟨w.heap.size + 1 + 1, 4, none⟩ (.slice (some ⟨Gr, 0, none⟩) n n)).cell? ⟨w.heap.size, 3, none⟩ = some (.int .i64 bd) := by go_simp
  have a4n : (w7.setCell ⟨w.heap.size + 1 + 1, 4, none⟩ (.slice (some ⟨Gr, 0, none⟩) n n)).cell? ⟨w.heap.size, 4, none⟩ = some (.slice Ar n cr) := by go_simp
  have o0n : (w7.setCell ⟨w.heap.size + 1 + 1, 4, none⟩ (.slice (some ⟨Gr, 0, none⟩) n n)).cell? ⟨w.heap.size + 1 + 1, 0, none⟩ = some (.int .i64 k) := by go_simp
  have o1n : (w7.setCell ⟨w.heap.size + 1 + 1, 4, none⟩ (.slice (some ⟨Gr, 0, none⟩) n n)).cell? ⟨w.heap.size + 1 + 1, 1, none⟩ = some (.slice (some ⟨Gv, 0, none⟩) vn vn) := by go_simp
  have o2n : (w7.setCell ⟨w.heap.size + 1 + 1, 4, none⟩ (.slice (some ⟨Gr, 0, none⟩) n n)).cell? ⟨w.heap.size + 1 + 1, 2, none⟩ = some (.slice (some ⟨Gc, 0, none⟩) cn cn) := by go_simp
  have o3n : (w7.setCell ⟨w.heap.size + 1 + 1, 4, none⟩ (.slice (some ⟨Gr, 0, none⟩) n n)).cell? ⟨w.heap.size + 1 + 1, 3, none⟩ = some (.int .i64 bd) := by go_simp
  have o4n : (w7.setCell ⟨w.heap.size + 1 + 1, 4, none⟩ (.slice (some ⟨Gr, 0, none⟩) n n)).cell? ⟨w.heap.size + 1 + 1, 4, none⟩ = some (.slice (some ⟨Gr, 0, none⟩) n n) := by go_simp
  have r0n : (w7.setCell ⟨w.heap.size + 1 + 1, 4, none⟩ (.slice (some ⟨Gr, 0, none⟩) n n)).cell? ⟨w.heap.size + 1, 0, none⟩ = some (.int .i64 0) := by go_simp
  have r1n : (w7.setCell ⟨w.heap.size + 1 + 1, 4, none⟩ (.slice (some ⟨Gr, 0, none⟩) n n)).cell? ⟨w.heap.size + 1, 1, none⟩ = some (.slice none 0 0) := by go_simp
  have r2n : (w7.setCell ⟨w.heap.size + 1 + 1, 4, none⟩ (.slice (some ⟨Gr, 0, none⟩) n n)).cell? ⟨w.heap.size + 1, 2, none⟩ = some (.slice none 0 0) := by go_simp
  have r3n : (w7.setCell ⟨w.heap.size + 1 + 1, 4, none⟩ (.slice (some ⟨Gr, 0, none⟩) n n)).cell? ⟨w.heap.size + 1, 3, none⟩ = some (.int .i64 0) := by go_simp
  have r4n : (w7.setCell ⟨w.heap.size + 1 + 1, 4, none⟩ (.slice (some ⟨Gr, 0, none⟩) n n)).cell? ⟨w.heap.size + 1, 4, none⟩ = some (.slice none 0 0) := by go_simp
  have f0n : (w7.setCell ⟨w.heap.size + 1 + 1, 4, none⟩ (.slice (some ⟨Gr, 0, none⟩) n n)).frozen? ⟨w.heap.size + 1 + 1, 0, none⟩ = false := by go_simp
  have g0n : (w7.setCell ⟨w.heap.size + 1 + 1, 4, none⟩ (.slice (some ⟨Gr, 0, none⟩) n n)).frozen? ⟨w.heap.size + 1, 0, none⟩ = false := by go_simp
  have f1n : (w7.setCell ⟨w.heap.size + 1 + 1, 4, none⟩ (.slice (some ⟨Gr, 0, none⟩) n n)).frozen? ⟨w.heap.size + 1 + 1, 1, none⟩ = false := by go_simp
  have g1n : (w7.setCell ⟨w.heap.size + 1 + 1, 4, none⟩ (.slice (some ⟨Gr, 0, none⟩) n n)).frozen? ⟨w.heap.size + 1, 1, none⟩ = false := by go_simp
  have f2n : (w7.setCell ⟨w.heap.size + 1 + 1, 4, none⟩ (.slice (some ⟨Gr, 0, none⟩) n n)).frozen? ⟨w.heap.size + 1 + 1, 2, none⟩ = false := by go_simp
  have g2n : (w7.setCell ⟨w.heap.size + 1 + 1, 4, none⟩ (.slice (some ⟨Gr, 0, none⟩) n n)).frozen? ⟨w.heap.size + 1, 2, none⟩ = false := by go_simp
  have f3n : (w7.setCell ⟨w.heap.size + 1 + 1, 4, none⟩ (.slice (some ⟨Gr, 0, none⟩) n n)).frozen? ⟨w.heap.size + 1 + 1, 3, none⟩ = false := by go_simp
  have g3n : (w7.setCell ⟨w.heap.size + 1 + 1, 4, none⟩ (.slice (some ⟨Gr, 0, none⟩) n n)).frozen? ⟨w.heap.size + 1, 3, none⟩ = false := by go_simp
  have f4n : (w7.setCell ⟨w.heap.size + 1 + 1, 4, none⟩ (.slice (some ⟨Gr, 0, none⟩) n n)).frozen? ⟨w.heap.size + 1 + 1, 4, none⟩ = false := by go_simp
  have g4n : (w7.setCell ⟨w.heap.size + 1 + 1, 4, none⟩ (.slice (some ⟨Gr, 0, none⟩) n n)).frozen? ⟨w.heap.size + 1, 4, none⟩ = false := by go_simp
  have HSn : Hid (w.heap.size + 3 ≤ (w7.setCell ⟨w.heap.size + 1 + 1, 4, none⟩ (.slice (some ⟨Gr, 0, none⟩) n n)).heap.size) := Lib.hid (by have := HS.out; simpa using this)
  have HBn : Hid (Below w.heap.size w (w7.setCell ⟨w.heap.size + 1 + 1, 4, none⟩ (.slice (some ⟨Gr, 0, none⟩) n n))) := Lib.hid (HB.out.setCell (by show w.heap.size ≤ w.heap.size + 1 + 1; omega) _)
  have OVn : Hid (OwnI (w7.setCell ⟨w.heap.size + 1 + 1, 4, none⟩ (.slice (some ⟨Gr, 0, none⟩) n n)) Gv vn vn v) := Lib.hid (OV.out.far (by show _; simp only; omega) _)
  have OCn : Hid (OwnI (w7.setCell ⟨w.heap.size + 1 + 1, 4, none⟩ (.slice (some ⟨Gr, 0, none⟩) n n)) Gc cn cn c) := Lib.hid (OC.out.far (by show _; simp only; omega) _)
  have ORn : Hid (OwnL (w7.setCell ⟨w.heap.size + 1 + 1, 4, none⟩ (.slice (some ⟨Gr, 0, none⟩) n n)) Gr n n r) := Lib.hid (OR.out.far (by show _; simp only; omega) _)
  clear a1 a2 a3 a4 o0 o1 o2 o3 o4 r0 r1 r2 r3 r4 f0 f1 f2 f3 f4 g0 g1 g2 g3 g4 HS HB OV OC OR
  have a1 := a1n
  have a2 := a2n
  have a3 := a3n
  have a4 := a4n
  have o0 := o0n
  have o1 := o1n
  have o2 := o2n
  have o3 := o3n
  have o4 := o4n
  have r0 := r0n
  have r1 := r1n
  have r2 := r2n
  have r3 := r3n
  have r4 := r4n
  have f0 := f0n
  have f1 := f1n
  have f2 := f2n
  have f3 := f3n
  have f4 := f4n
  have g0 := g0n
  have g1 := g1n
  have g2 := g2n
  have g3 := g3n
  have g4 := g4n
  have HS := HSn
  have HB := HBn
  have OV := OVn
  have OC := OCn
  have OR := ORn
  clear a1n a2n a3n a4n o0n o1n o2n o3n o4n r0n r1n r2n r3n r4n f0n f1n f2n f3n f4n g0n g1n g2n g3n g4n HSn HBn OVn OCn ORn
  generalize (w7.setCell ⟨w.heap.size + 1 + 1, 4, none⟩ (.slice (some ⟨Gr, 0, none⟩) n n)) = w8 at *
  have a1n : (w8.setCell ⟨w.heap.size + 1, 0, none⟩ (.int .i64 k)).cell? ⟨w.heap.size, 1, none⟩ = some (.slice Av vn cv) := by go_simp
  have a2n : (w8.setCell ⟨w.heap.size + 1, 0, none⟩ (.int .i64 k)).cell? ⟨w.heap.size, 2, none⟩ = some (.slice Ac cn cc) := by go_simp
  have a3n : (w8.setCell ⟨w.heap.size + 1, 0, none⟩ (.int .i64 k)).cell? ⟨w.heap.size, 3, none⟩ = some (.int .i64 bd) := by go_simp
  have a4n : (w8.setCell ⟨w.heap.size + 1, 0, none⟩ (.int .i64 k)).cell? ⟨w.heap.size, 4, none⟩ = some (.slice Ar n cr) := by go_simp
  have o0n : (w8.setCell ⟨w.heap.size + 1, 0, none⟩ (.int .i64 k)).cell? ⟨w.heap.size + 1 + 1, 0, none⟩ = some (.int .i64 k) := by go_simp
  have o1n : (w8.setCell ⟨w.heap.size + 1, 0, none⟩ (.int .i64 k)).cell? ⟨w.heap.size + 1 + 1, 1, none⟩ = some (.slice (some ⟨Gv, 0, none⟩) vn vn) := by go_simp
  have o2n : (w8.setCell ⟨w.heap.size + 1, 0, none⟩ (.int .i64 k)).cell? ⟨w.heap.size + 1 + 1, 2, none⟩ = some (.slice (some ⟨Gc, 0, none⟩) cn cn) := by go_simp
  have o3n : (w8.setCell ⟨w.heap.size + 1, 0, none⟩ (.int .i64 k)).cell? ⟨w.heap.size + 1 + 1, 3, none⟩ = some (.int .i64 bd) := by go_simp
  have o4n : (w8.setCell ⟨w.heap.size + 1, 0, none⟩ (.int .i64 k)).cell? ⟨w.heap.size + 1 + 1, 4, none⟩ = some (.slice (some ⟨Gr, 0, none⟩) n n) := by go_simp
  have r0n : (w8.setCell ⟨w.heap.size + 1, 0, none⟩ (.int .i64 k)).cell? ⟨w.heap.size + 1, 0, none⟩ = some (.int .i64 k) := by go_simp
  have r1n : (w8.setCell ⟨w.heap.size + 1, 0, none⟩ (.int .i64 k)).cell? ⟨w.heap.size + 1, 1, none⟩ = some (.slice none 0 0) := by go_simp
  have r2n : (w8.setCell ⟨w.heap.size + 1, 0, none⟩ (.int .i64 k)).cell? ⟨w.heap.size + 1, 2, none⟩ = some (.slice none 0 0) := by go_simp
  have r3n : (w8.setCell ⟨w.heap.size + 1, 0, none⟩ (.int .i64 k)).cell? ⟨w.heap.size + 1, 3, none⟩ = some (.int .i64 0) := by go_simp
  have r4n : (w8.setCell ⟨w.heap.size + 1, 0, none⟩ (.int .i64 k)).cell? ⟨w.heap.size + 1, 4, none⟩ = some (.slice none 0 0) := by go_simp
  have f0n : (w8.setCell ⟨w.heap.size + 1, 0, none⟩ (.int .i64 k)).frozen? ⟨w.heap.size + 1 + 1, 0, none⟩ = false := by go_simp
  have g0n : (w8.setCell ⟨w.heap.size + 1, 0, none⟩ (.int .i64 k)).frozen? ⟨w.heap.size + 1, 0, none⟩ = false := by go_simp
  have f1n : (w8.setCell ⟨w.heap.size + 1, 0, none⟩ (.int .i64 k)).frozen? ⟨w.heap.size + 1 + 1, 1, none⟩ = false := by go_simp
  have g1n : (w8.setCell ⟨w.heap.size + 1, 0, none⟩ (.int .i64 k)).frozen? ⟨w.heap.size + 1, 1, none⟩ = false := by go_simp
  have f2n : (w8.setCell ⟨w.heap.size + 1, 0, none⟩ (.int .i64 k)).frozen? ⟨w.heap.size + 1 + 1, 2, none⟩ = false := by go_simp
  have g2n : (w8.setCell ⟨w.heap.size + 1, 0, none⟩ (.int .i64 k)).frozen? ⟨w.heap.size + 1, 2, none⟩ = false := by go_simp
  have f3n : (w8.setCell ⟨w.heap.size + 1, 0, none⟩ (.int .i64 k)).frozen? ⟨w.heap.size + 1 + 1, 3, none⟩ = false := by go_simp
  have g3n : (w8.setCell ⟨w.heap.size + 1, 0, none⟩ (.int .i64 k)).frozen? ⟨w.heap.size + 1, 3, none⟩ = false := by go_simp
  have f4n : (w8.setCell ⟨w.heap.size + 1, 0, none⟩ (.int .i64 k)).frozen? ⟨w.heap.size + 1 + 1, 4, none⟩ = false := by go_simp
  have g4n : (w8.setCell ⟨w.heap.size + 1, 0, none⟩ (.int .i64 k)).frozen? ⟨w.heap.size + 1, 4, none⟩ = false := by go_simp
  have HSn : Hid (w.heap.size + 3 ≤ (w8.setCell ⟨w.heap.size + 1, 0, none⟩ (.int .i64 k)).heap.size) := Lib.hid (by have := HS.out; simpa using this)
  have HBn : Hid (Below w.heap.size w (w8.setCell ⟨w.heap.size + 1, 0, none⟩ (.int .i64 k))) := Lib.hid (HB.out.setCell (by show w.heap.size ≤ w.heap.size + 1; omega) _)
  have OVn : Hid (OwnI (w8.setCell ⟨w.heap.size + 1, 0, none⟩ (.int .i64 k)) Gv vn vn v) := Lib.hid (OV.out.far (by show _; simp only; omega) _)
  have OCn : Hid (OwnI (w8.setCell ⟨w.heap.size + 1, 0, none⟩ (.int .i64 k)) Gc cn cn c) := Lib.hid (OC.out.far (by show _; simp only; omega) _)
  have ORn : Hid (OwnL (w8.setCell ⟨w.heap.size + 1, 0, none⟩ (.int .i64 k)) Gr n n r) := Lib.hid (OR.out.far (by show _; simp only; omega) _)
  clear a1 a2 a3 a4 o0 o1 o2 o3 o4 r0 r1 r2 r3 r4 f0 f1 f2 f3 f4 g0 g1 g2 g3 g4 HS HB OV OC OR
  have a1 := a1n
  have a2 := a2n
  have a3 := a3n
  have a4 := a4n
  have o0 := o0n
  have o1 := o1n
  have o2 := o2n
  have o3 := o3n
  have o4 := o4n
  have r0 := r0n
  have r1 := r1n
  have r2 := r2n
  have r3 := r3n
  have r4 := r4n
  have f0 := f0n
  have f1 := f1n
  have f2 := f2n
  have f3 := f3n
  have f4 := f4n
  have g0 := g0n
  have g1 := g1n
  have g2 := g2n
  have g3 := g3n
  have g4 := g4n
  have HS := HSn
  have HB := HBn
  have OV := OVn
  have OC := OCn
  have OR := ORn
  clear a1n a2n a3n a4n o0n o1n o2n o3n o4n r0n r1n r2n r3n r4n f0n f1n f2n f3n f4n g0n g1n g2n g3n g4n HSn HBn OVn OCn ORn
  generalize (w8.setCell ⟨w.heap.size + 1, 0, none⟩ (.int .i64 k)) = w9 at *
  have a1n : (w9.setCell ⟨w.heap.size + 1, 1, none⟩ (.slice (some ⟨Gv, 0, none⟩) vn vn)).cell? ⟨w.heap.size, 1, none⟩ = some (.slice Av vn cv) := by go_simp
  have a2n : (w9.setCell ⟨w.heap.size + 1, 1, none⟩ (.slice (some ⟨Gv, 0, none⟩) vn vn)).cell? ⟨w.heap.size, 2, none⟩ = some (.slice Ac cn cc) := by go_simp
  have a3n : (w9.setCell ⟨w.heap.size + 1, 1, none⟩ (.slice (some ⟨Gv, 0, none⟩) vn vn)).cell? ⟨w.heap.size, 3, none⟩ = some (.int .i64 bd) := by go_simp
  have a4n : (w9.setCell ⟨w.heap.size + 1, 1, none⟩ (.slice (some ⟨Gv, 0, none⟩) vn vn)).cell? ⟨w.heap.size, 4, none⟩ = some (.slice Ar n cr) := by go_simp
  have o0n : (w9.setCell ⟨w.heap.size + 1, 1, none⟩ (.slice (some ⟨Gv, 0, none⟩) vn vn)).cell? ⟨w.heap.size + 1 + 1, 0, none⟩ = some (.int .i64 k) := by go_simp
  have o1n : (w9.setCell ⟨w.heap.size + 1, 1, none⟩ (.slice (some ⟨Gv, 0, none⟩) vn vn)).cell? ⟨w.heap.size + 1 + 1, 1, none⟩ = some (.slice (some ⟨Gv, 0, none⟩) vn vn) := by go_simp
  have o2n : (w9.setCell ⟨w.heap.size + 1, 1, none⟩ (.slice (some ⟨Gv, 0, none⟩) vn vn)).cell? ⟨w.heap.size + 1 + 1, 2, none⟩ = some (.slice (some ⟨Gc, 0, none⟩) cn cn) := by go_simp
  have o3n : (w9.setCell ⟨w.heap.size + 1, 1, none⟩ (.slice (some ⟨Gv, 0, none⟩) vn vn)).cell? ⟨w.heap.size + 1 + 1, 3, none⟩ = some (.int .i64 bd) := by go_simp
  have o4n : (w9.setCell ⟨w.heap.size + 1, 1, none⟩ (.slice (some ⟨Gv, 0, none⟩) vn vn)).cell? ⟨w.heap.size + 1 + 1, 4, none⟩ = some (.slice (some ⟨Gr, 0, none⟩) n n) := by go_simp
  have r0n : (w9.setCell ⟨w.heap.size + 1, 1, none⟩ (.slice (some ⟨Gv, 0, none⟩) vn vn)).cell? ⟨w.heap.size + 1, 0, none⟩ = some (.int .i64 k) := by go_simp
  have r1n : (w9.setCell ⟨w.heap.size + 1, 1, none⟩ (.slice (some ⟨Gv, 0, none⟩) vn vn)).cell? ⟨w.heap.size + 1, 1, none⟩ = some (.slice (some ⟨Gv, 0, none⟩) vn vn) := by go_simp
  have r2n : (w9.setCell ⟨w.heap.size + 1, 1, none⟩ (.slice (some ⟨Gv, 0, none⟩) vn vn)).cell? ⟨w.heap.size + 1, 2, none⟩ = some (.slice none 0 0) := by go_simp
  have r3n : (w9.setCell ⟨w.heap.size + 1, 1, none⟩ (.slice (some ⟨Gv, 0, none⟩) vn vn)).cell? ⟨w.heap.size + 1, 3, none⟩ = some (.int .i64 0) := by go_simp
  have r4n : (w9.setCell ⟨w.heap.size + 1, 1, none⟩ (.slice (some ⟨Gv, 0, none⟩) vn vn)).cell? ⟨w.heap.size + 1, 4, none⟩ = some (.slice none 0 0) := by go_simp
  have f0n : (w9.setCell ⟨w.heap.size + 1, 1, none⟩ (.slice (some ⟨Gv, 0, none⟩) vn vn)).frozen? ⟨w.heap.size + 1 + 1, 0, none⟩ = false := by go_simp
  have g0n : (w9.setCell ⟨w.heap.size + 1, 1, none⟩ (.slice (some ⟨Gv, 0, none⟩) vn vn)).frozen? ⟨w.heap.size + 1, 0, none⟩ = false := by go_simp
  have f1n : (w9.setCell ⟨w.heap.size + 1, 1, none⟩ (.slice (some ⟨Gv, 0, none⟩) vn vn)).frozen? ⟨w.heap.size + 1 + 1, 1, none⟩ = false := by go_simp
  have g1n : (w9.setCell ⟨w.heap.size + 1, 1, none⟩ (.slice (some ⟨Gv, 0, none⟩) vn vn)).frozen? ⟨w.heap.size + 1, 1, none⟩ = false := by go_simp
  have f2n : (w9.setCell ⟨w.heap.size + 1, 1, none⟩ (.slice (some ⟨Gv, 0, none⟩) vn vn)).frozen? ⟨w.heap.size + 1 + 1, 2, none⟩ = false := by go_simp
  have g2n : (w9.setCell ⟨w.heap.size + 1, 1, none⟩ (.slice (some ⟨Gv, 0, none⟩) vn vn)).frozen? ⟨w.heap.size + 1, 2, none⟩ = false := by go_simp
  have f3n : (w9.setCell ⟨w.heap.size + 1, 1, none⟩ (.slice (some ⟨Gv, 0, none⟩) vn vn)).frozen? ⟨w.heap.size + 1 + 1, 3, none⟩ = false := by go_simp
  have g3n : (w9.setCell ⟨w.heap.size + 1, 1, none⟩ (.slice (some ⟨Gv, 0, none⟩) vn vn)).frozen? ⟨w.heap.size + 1, 3, none⟩ = false := by go_simp
  have f4n : (w9.setCell ⟨w.heap.size + 1, 1, none⟩ (.slice (some ⟨Gv, 0, none⟩) vn vn)).frozen? ⟨w.heap.size + 1 + 1, 4, none⟩ = false := by go_simp
  have g4n : (w9.setCell ⟨w.heap.size + 1, 1, none⟩ (.slice (some ⟨Gv, 0, none⟩) vn vn)).frozen? ⟨w.heap.size + 1, 4, none⟩ = false := by go_simp
  have HSn : Hid (w.heap.size + 3 ≤ (w9.setCell ⟨w.heap.size + 1, 1, none⟩ (.slice (some ⟨Gv, 0, none⟩) vn vn)).heap.size) := Lib.hid (by have := HS.out; simpa using this)
  have HBn : Hid (Below w.heap.size w (w9.setCell ⟨w.heap.size + 1, 1, none⟩ (.slice (some ⟨Gv, 0, none⟩) vn vn))) := Lib.hid (HB.out.setCell (by show w.heap.size ≤ w.heap.size + 1; omega) _)
  have OVn : Hid (OwnI (w9.setCell ⟨w.heap.size + 1, 1, none⟩ (.slice (some ⟨Gv, 0, none⟩) vn vn)) Gv vn vn v) := Lib.hid (OV.out.far (by show _; simp only; omega) _)
  have OCn : Hid (OwnI (w9.setCell ⟨w.heap.size + 1, 1, none⟩ (.slice (some ⟨Gv, 0, none⟩) vn vn)) Gc cn cn c) := Lib.hid (OC.out.far (by show _; simp only; omega) _)
  have ORn : Hid (OwnL (w9.setCell ⟨w.heap.size + 1, 1, none⟩ (.slice (some ⟨Gv, 0, none⟩) vn vn)) Gr n n r) := Lib.hid (OR.out.far (by show _; simp only; omega) _)
  clear a1 a2 a3 a4 o0 o1 o2 o3 o4 r0 r1 r2 r3 r4 f0 f1 f2 f3 f4 g0 g1 g2 g3 g4 HS HB OV OC OR
  have a1 := a1n
  have a2 := a2n
  have a3 := a3n
  have a4 := a4n
  have o0 := o0n
  have o1 := o1n
  have o2 := o2n
  have o3 := o3n
  have o4 := o4n
  have r0 := r0n
  have r1 := r1n
  have r2 := r2n
  have r3 := r3n
  have r4 := r4n
  have f0 := f0n
  have f1 := f1n
  have f2 := f2n
  have f3 := f3n
  have f4 := f4n
  have g0 := g0n
  have g1 := g1n
  have g2 := g2n
  have g3 := g3n
  have g4 := g4n
  have HS := HSn
  have HB := HBn
  have OV := OVn
  have OC := OCn
  have OR := ORn
  clear a1n a2n a3n a4n o0n o1n o2n o3n o4n r0n r1n r2n r3n r4n f0n f1n f2n f3n f4n g0n g1n g2n g3n g4n HSn HBn OVn OCn ORn
  generalize (w9.setCell ⟨w.heap.size + 1, 1, none⟩ (.slice (some ⟨Gv, 0, none⟩) vn vn)) = w10 at *
  have a1n : (w10.setCell ⟨w.heap.size + 1, 2, none⟩ (.slice (some ⟨Gc, 0, none⟩) cn cn)).cell? ⟨w.heap.size, 1, none⟩ = some (.slice Av vn cv) := by go_simp
  have a2n : (w10.setCell ⟨w.heap.size + 1, 2, none⟩ (.slice (some ⟨Gc, 0, none⟩) cn cn)).cell? ⟨w.heap.size, 2, none⟩ = some (.slice Ac cn cc) := by go_simp
  have a3n : (w10.setCell ⟨w.heap.size + 1, 2, none⟩ (.slice (some ⟨Gc, 0, none⟩) cn cn)).cell? ⟨w.heap.size, 3, none⟩ = some (.int .i64 bd) := by go_simp
  have a4n : (w10.setCell ⟨w.heap.size + 1, 2, none⟩ (.slice (some ⟨Gc, 0, none⟩) cn cn)).cell? ⟨w.heap.size, 4, none⟩ = some (.slice Ar n cr) := by go_simp
  have o0n : (w10.setCell ⟨w.heap.size + 1, 2, none⟩ (.slice (some ⟨Gc, 0, none⟩) cn cn)).cell? ⟨w.heap.size + 1 + 1, 0, none⟩ = some (.int .i64 k) := by go_simp
  have o1n : (w10.setCell ⟨w.heap.size + 1, 2, none⟩ (.slice (some ⟨Gc, 0, none⟩) cn cn)).cell? ⟨w.heap.size + 1 + 1, 1, none⟩ = some (.slice (some ⟨Gv, 0, none⟩) vn vn) := by go_simp
  have o2n : (w10.setCell ⟨w.heap.size + 1, 2, none⟩ (.slice (some ⟨Gc, 0, none⟩) cn cn)).cell? ⟨w.heap.size + 1 + 1, 2, none⟩ = some (.slice (some ⟨Gc, 0, none⟩) cn cn) := by go_simp
  have o3n : (w10.setCell ⟨w.heap.size + 1, 2, none⟩ (.slice (some ⟨Gc, 0, none⟩) cn cn)).cell? ⟨w.heap.size + 1 + 1, 3, none⟩ = some (.int .i64 bd) := by go_simp
  have o4n : (w10.setCell ⟨w.heap.size + 1, 2, none⟩ (.slice (some ⟨Gc, 0, none⟩) cn cn)).cell? ⟨w.heap.size + 1 + 1, 4, none⟩ = some (.slice (some ⟨Gr, 0, none⟩) n n) := by go_simp
  have r0n : (w10.setCell ⟨w.heap.size + 1, 2, none⟩ (.slice (some ⟨Gc, 0, none⟩) cn cn)).cell? ⟨w.heap.size + 1, 0, none⟩ = some (.int .i64 k) := by go_simp
  have r1n : (w10.setCell ⟨w.heap.size + 1, 2, none⟩ (.slice (some ⟨Gc, 0, none⟩) cn cn)).cell? ⟨w.heap.size + 1, 1, none⟩ = some (.slice (some ⟨Gv, 0, none⟩) vn vn) := by go_simp
  have r2n : (w10.setCell ⟨w.heap.size + 1, 2, none⟩ (.slice (some ⟨Gc, 0, none⟩) cn cn)).cell? ⟨w.heap.size + 1, 2, none⟩ = some (.slice (some ⟨Gc, 0, none⟩) cn cn) := by go_simp
  have r3n : (w10.setCell ⟨w.heap.size + 1, 2, none⟩ (.slice (some ⟨Gc, 0, none⟩) cn cn)).cell? ⟨w.heap.size + 1, 3, none⟩ = some (.int .i64 0) := by go_simp
  have r4n : (w10.setCell ⟨w.heap.size + 1, 2, none⟩ (.slice (some ⟨Gc, 0, none⟩) cn cn)).cell? ⟨w.heap.size + 1, 4, none⟩ = some (.slice none 0 0) := by go_simp
  have f0n : (w10.setCell ⟨w.heap.size + 1, 2, none⟩ (.slice (some ⟨Gc, 0, none⟩) cn cn)).frozen? ⟨w.heap.size + 1 + 1, 0, none⟩ = false := by go_simp
  have g0n : (w10.setCell ⟨w.heap.size + 1, 2, none⟩ (.slice (some ⟨Gc, 0, none⟩) cn cn)).frozen? ⟨w.heap.size + 1, 0, none⟩ = false := by go_simp
  have f1n : (w10.setCell ⟨w.heap.size + 1, 2, none⟩ (.slice (some ⟨Gc, 0, none⟩) cn cn)).frozen? ⟨w.heap.size + 1 + 1, 1, none⟩ = false := by go_simp
  have g1n : (w10.setCell ⟨w.heap.size + 1, 2, none⟩ (.slice (some ⟨Gc, 0, none⟩) cn cn)).frozen? ⟨w.heap.size + 1, 1, none⟩ = false := by go_simp
  have f2n : (w10.setCell ⟨w.heap.size + 1, 2, none⟩ (.slice (some ⟨Gc, 0, none⟩) cn cn)).frozen? ⟨w.heap.size + 1 + 1, 2, none⟩ = false := by go_simp
  have g2n : (w10.setCell ⟨w.heap.size + 1, 2, none⟩ (.slice (some ⟨Gc, 0, none⟩) cn cn)).frozen? ⟨w.heap.size + 1, 2, none⟩ = false := by go_simp
  have f3n : (w10.setCell ⟨w.heap.size + 1, 2, none⟩ (.slice (some ⟨Gc, 0, none⟩) cn cn)).frozen? ⟨w.heap.size + 1 + 1, 3, none⟩ = false := by go_simp
  have g3n : (w10.setCell ⟨w.heap.size + 1, 2, none⟩ (.slice (some ⟨Gc, 0, none⟩) cn cn)).frozen? ⟨w.heap.size + 1, 3, none⟩ = false := by go_simp
  have f4n : (w10.setCell ⟨w.heap.size + 1, 2, none⟩ (.slice (some ⟨Gc, 0, none⟩) cn cn)).frozen? ⟨w.heap.size + 1 + 1, 4, none⟩ = false := by go_simp
  have g4n : (w10.setCell ⟨w.heap.size + 1, 2, none⟩ (.slice (some ⟨Gc, 0, none⟩) cn cn)).frozen? ⟨w.heap.size + 1, 4, none⟩ = false := by go_simp
  have HSn : Hid (w.heap.size + 3 ≤ (w10.setCell ⟨w.heap.size + 1, 2, none⟩ (.slice (some ⟨Gc, 0, none⟩) cn cn)).heap.size) := Lib.hid (by have := HS.out; simpa using this)
  have HBn : Hid (Below w.heap.size w (w10.setCell ⟨w.heap.size + 1, 2, none⟩ (.slice (some ⟨Gc, 0, none⟩) cn cn))) := Lib.hid (HB.out.setCell (by show w.heap.size ≤ w.heap.size + 1; omega) _)
  have OVn : Hid (OwnI (w10.setCell ⟨w.heap.size + 1, 2, none⟩ (.slice (some ⟨Gc, 0, none⟩) cn cn)) Gv vn vn v) := Lib.hid (OV.out.far (by show _; simp only; omega) _)
  have OCn : Hid (OwnI (w10.setCell ⟨w.heap.size + 1, 2, none⟩ (.slice (some ⟨Gc, 0, none⟩) cn cn)) Gc cn cn c) := Lib.hid (OC.out.far (by show _; simp only; omega) _)
  have ORn : Hid (OwnL (w10.setCell ⟨w.heap.size + 1, 2, none⟩ (.slice (some ⟨Gc, 0, none⟩) cn cn)) Gr n n r) := Lib.hid (OR.out.far (by show _; simp only; omega) _)
  clear a1 a2 a3 a4 o0 o1 o2 o3 o4 r0 r1 r2 r3 r4 f0 f1 f2 f3 f4 g0 g1 g2 g3 g4 HS HB OV OC OR
  have a1 := a1n
  have a2 := a2n
  have a3 := a3n
  have a4 := a4n
  have o0 := o0n
  have o1 := o1n
  have o2 := o2n
  have o3 := o3n
  have o4 := o4n
  have r0 := r0n
  have r1 := r1n
  have r2 := r2n
  have r3 := r3n
  have r4 := r4n
  have f0 := f0n
  have f1 := f1n
  have f2 := f2n
  have f3 := f3n
  have f4 := f4n
  have g0 := g0n
  have g1 := g1n
  have g2 := g2n
  have g3 := g3n
  have g4 := g4n
  have HS := HSn
  have HB := HBn
  have OV := OVn
  have OC := OCn
  have OR := ORn
  clear a1n a2n a3n a4n o0n o1n o2n o3n o4n r0n r1n r2n r3n r4n f0n f1n f2n f3n f4n g0n g1n g2n g3n g4n HSn HBn OVn OCn ORn
  generalize (w10.setCell ⟨w.heap.size + 1, 2, none⟩ (.slice (some ⟨Gc, 0, none⟩) cn cn)) = w11 at *
  have a1n : (w11.setCell ⟨w.heap.size + 1, 3, none⟩ (.int .i64 bd)).cell? ⟨w.heap.size, 1, none⟩ = some (.slice Av vn cv) := by go_simp
  have a2n : (w11.setCell ⟨w.heap.size + 1, 3, none⟩ (.int .i64 bd)).cell? ⟨w.heap.size, 2, none⟩ = some (.slice Ac cn cc) := by go_simp
  have a3n : (w11.setCell ⟨w.heap.size + 1, 3, none⟩ (.int .i64 bd)).cell? ⟨w.heap.size, 3, none⟩ = some (.int .i64 bd) := by go_simp
  have a4n : (w11.setCell ⟨w.heap.size + 1, 3, none⟩ (.int .i64 bd)).cell? ⟨w.heap.size, 4, none⟩ = some (.slice Ar n cr) := by go_simp
  have o0n : (w11.setCell ⟨w.heap.size + 1, 3, none⟩ (.int .i64 bd)).cell? ⟨w.heap.size + 1 + 1, 0, none⟩ = some (.int .i64 k) := by go_simp
  have o1n : (w11.setCell ⟨w.heap.size + 1, 3, none⟩ (.int .i64 bd)).cell? ⟨w.heap.size + 1 + 1, 1, none⟩ = some (.slice (some ⟨Gv, 0, none⟩) vn vn) := by go_simp
  have o2n : (w11.setCell ⟨w.heap.size + 1, 3, none⟩ (.int .i64 bd)).cell? ⟨w.heap.size + 1 + 1, 2, none⟩ = some (.slice (some ⟨Gc, 0, none⟩) cn cn) := by go_simp
  have o3n : (w11.setCell ⟨w.heap.size + 1, 3, none⟩ (.int .i64 bd)).cell? ⟨w.heap.size + 1 + 1, 3, none⟩ = some (.int .i64 bd) := by go_simp
  have o4n : (w11.setCell ⟨w.heap.size + 1, 3, none⟩ (.int .i64 bd)).cell? ⟨w.heap.size + 1 + 1, 4, none⟩ = some (.slice (some ⟨Gr, 0, none⟩) n n) := by go_simp
  have r0n : (w11.setCell ⟨w.heap.size + 1, 3, none⟩ (.int .i64 bd)).cell? ⟨w.heap.size + 1, 0, none⟩ = some (.int .i64 k) := by go_simp
  have r1n : (w11.setCell ⟨w.heap.size + 1, 3, none⟩ (.int .i64 bd)).cell? ⟨w.heap.size + 1, 1, none⟩ = some (.slice (some ⟨Gv, 0, none⟩) vn vn) := by go_simp
  have r2n : (w11.setCell ⟨w.heap.size + 1, 3, none⟩ (.int .i64 bd)).cell? ⟨w.heap.size + 1, 2, none⟩ = some (.slice (some ⟨Gc, 0, none⟩) cn cn) := by go_simp
  have r3n : (w11.setCell ⟨w.heap.size + 1, 3, none⟩ (.int .i64 bd)).cell? ⟨w.heap.size + 1, 3, none⟩ = some (.int .i64 bd) := by go_simp
  have r4n : (w11.setCell ⟨w.heap.size + 1, 3, none⟩ (.int .i64 bd)).cell? ⟨w.heap.size + 1, 4, none⟩ = some (.slice none 0 0) := by go_simp
  have f0n : (w11.setCell ⟨w.heap.size + 1, 3, none⟩ (.int .i64 bd)).frozen? ⟨w.heap.size + 1 + 1, 0, none⟩ = false := by go_simp
  have g0n : (w11.setCell ⟨w.heap.size + 1, 3, none⟩ (.int .i64 bd)).frozen? ⟨w.heap.size + 1, 0, none⟩ = false := by go_simp
  have f1n : (w11.setCell ⟨w.heap.size + 1, 3, none⟩ (.int .i64 bd)).frozen? ⟨w.heap.size + 1 + 1, 1, none⟩ = false := by go_simp
  have g1n : (w11.setCell ⟨w.heap.size + 1, 3, none⟩ (.int .i64 bd)).frozen? ⟨w.heap.size + 1, 1, none⟩ = false := by go_simp
  have f2n : (w11.setCell ⟨w.heap.size + 1, 3, none⟩ (.int .i64 bd)).frozen? ⟨w.heap.size + 1 + 1, 2, none⟩ = false := by go_simp
  have g2n : (w11.setCell ⟨w.heap.size + 1, 3, none⟩ (.int .i64 bd)).frozen? ⟨w.heap.size + 1, 2, none⟩ = false := by go_simp
  have f3n : (w11.setCell ⟨w.heap.size + 1, 3, none⟩ (.int .i64 bd)).frozen? ⟨w.heap.size + 1 + 1, 3, none⟩ = false := by go_simp
  have g3n : (w11.setCell ⟨w.heap.size + 1, 3, none⟩ (.int .i64 bd)).frozen? ⟨w.heap.size + 1, 3, none⟩ = false := by go_simp
  have f4n : (w11.setCell ⟨w.heap.size + 1, 3, none⟩ (.int .i64 bd)).frozen? ⟨w.heap.size + 1 + 1, 4, none⟩ = false := by go_simp
  have g4n : (w11.setCell ⟨w.heap.size + 1, 3, none⟩ (.int .i64 bd)).frozen? ⟨w.heap.size + 1, 4, none⟩ = false := by go_simp
  have HSn : Hid (w.heap.size + 3 ≤ (w11.setCell ⟨w.heap.size + 1, 3, none⟩ (.int .i64 bd)).heap.size) := Lib.hid (by have := HS.out; simpa using this)
  have HBn : Hid (Below w.heap.size w (w11.setCell ⟨w.heap.size + 1, 3, none⟩ (.int .i64 bd))) := Lib.hid (HB.out.setCell (by show w.heap.size ≤ w.heap.size + 1; omega) _)
  have OVn : Hid (OwnI (w11.setCell ⟨w.heap.size + 1, 3, none⟩ (.int .i64 bd)) Gv vn vn v) := Lib.hid (OV.out.far (by show _; simp only; omega) _)
  have OCn : Hid (OwnI (w11.setCell ⟨w.heap.size + 1, 3, none⟩ (.int .i64 bd)) Gc cn cn c) := Lib.hid (OC.out.far (by show _; simp only; omega) _)
  have ORn : Hid (OwnL (w11.setCell ⟨w.heap.size + 1, 3, none⟩ (.int .i64 bd)) Gr n n r) := Lib.hid (OR.out.far (by show _; simp only; omega) _)
  clear a1 a2 a3 a4 o0 o1 o2 o3 o4 r0 r1 r2 r3 r4 f0 f1 f2 f3 f4 g0 g1 g2 g3 g4 HS HB OV OC OR
  have a1 := a1n
  have a2 := a2n
  have a3 := a3n
  have a4 := a4n
  have o0 := o0n
  have o1 := o1n
  have o2 := o2n
  have o3 := o3n
  have o4 := o4n
  have r0 := r0n
  have r1 := r1n
  have r2 := r2n
  have r3 := r3n
  have r4 := r4n
  have f0 := f0n
  have f1 := f1n
  have f2 := f2n
  have f3 := f3n
  have f4 := f4n
  have g0 := g0n
  have g1 := g1n
  have g2 := g2n
  have g3 := g3n
  have g4 := g4n
  have HS := HSn
  have HB := HBn
  have OV := OVn
  have OC := OCn
  have OR := ORn
  clear a1n a2n a3n a4n o0n o1n o2n o3n o4n r0n r1n r2n r3n r4n f0n f1n f2n f3n f4n g0n g1n g2n g3n g4n HSn HBn OVn OCn ORn
  generalize (w11.setCell ⟨w.heap.size + 1, 3, none⟩ (.int .i64 bd)) = w12 at *
  have a1n : (w12.setCell ⟨w.heap.size + 1, 4, none⟩ (.slice (some ⟨Gr, 0, none⟩) n n)).cell? ⟨w.heap.size, 1, none⟩ = some (.slice Av vn cv) := by go_simp
  have a2n : (w12.setCell ⟨w.heap.size + 1, 4, none⟩ (.slice (some ⟨Gr, 0, none⟩) n n)).cell? ⟨w.heap.size, 2, none⟩ = some (.slice Ac cn cc) := by go_simp
  have a3n : (w12.setCell ⟨w.heap.size + 1, 4, none⟩ (.slice (some ⟨Gr, 0, none⟩) n n)).cell? ⟨w.heap.size, 3, none⟩ = some (.int .i64 bd) := by go_simp
  have a4n : (w12.setCell ⟨w.heap.size + 1, 4, none⟩ (.slice (some ⟨Gr, 0, none⟩) n n)).cell? ⟨w.heap.size, 4, none⟩ = some (.slice Ar n cr) := by go_simp
  have o0n : (w12.setCell ⟨w.heap.size + 1, 4, none⟩ (.slice (some ⟨Gr, 0, none⟩) n n)).cell? ⟨w.heap.size + 1 + 1, 0, none⟩ = some (.int .i64 k) := by go_simp
  have o1n : (w12.setCell ⟨w.heap.size + 1, 4, none⟩ (.slice (some ⟨Gr, 0, none⟩) n n)).cell? ⟨w.heap.size + 1 + 1, 1, none⟩ = some (.slice (some ⟨Gv, 0, none⟩) vn vn) := by go_simp
  have o2n : (w12.setCell ⟨w.heap.size + 1, 4, none⟩ (.slice (some ⟨Gr, 0, none⟩) n n)).cell? ⟨w.heap.size + 1 + 1, 2, none⟩ = some (.slice (some ⟨Gc, 0, none⟩) cn cn) := by go_simp
  have o3n : (w12.setCell ⟨w.heap.size + 1, 4, none⟩ (.slice (some ⟨Gr, 0, none⟩) n n)).cell? ⟨w.heap.size + 1 + 1, 3, none⟩ = some (.int .i64 bd) := by go_simp
  have o4n : (w12.setCell ⟨w.heap.size + 1, 4, none⟩ (.slice (some ⟨Gr, 0, none⟩) n n)).cell? ⟨w.heap.size + 1 + 1, 4, none⟩ = some (.slice (some ⟨Gr, 0, none⟩) n n) := by go_simp
  have r0n : (w12.setCell ⟨w.heap.size + 1, 4, none⟩ (.slice (some ⟨Gr, 0, none⟩) n n)).cell? ⟨w.heap.size + 1, 0, none⟩ = some (.int .i64 k) := by go_simp
  have r1n : (w12.setCell ⟨w.heap.size + 1, 4, none⟩ (.slice (some ⟨Gr, 0, none⟩) n n)).cell? ⟨w.heap.size + 1, 1, none⟩ = some (.slice (some ⟨Gv, 0, none⟩) vn vn) := by go_simp
  have r2n : (w12.setCell ⟨w.heap.size + 1, 4, none⟩ (.slice (some ⟨Gr, 0, none⟩) n n)).cell? ⟨w.heap.size + 1, 2, none⟩ = some (.slice (some ⟨Gc, 0, none⟩) cn cn) := by go_simp
  have r3n : (w12.setCell ⟨w.heap.size + 1, 4, none⟩ (.slice (some ⟨Gr, 0, none⟩) n n)).cell? ⟨w.heap.size + 1, 3, none⟩ = some (.int .i64 bd) := by go_simp
  have r4n : (w12.setCell ⟨w.heap.size + 1, 4, none⟩ (.slice (some ⟨Gr, 0, none⟩) n n)).cell? ⟨w.heap.size + 1, 4, none⟩ = some (.slice (some ⟨Gr, 0, none⟩) n n) := by go_simp
  have f0n : (w12.setCell ⟨w.heap.size + 1, 4, none⟩ (.slice (some ⟨Gr, 0, none⟩) n n)).frozen? ⟨w.heap.size + 1 + 1, 0, none⟩ = false := by go_simp
  have g0n : (w12.setCell ⟨w.heap.size + 1, 4, none⟩ (.slice (some ⟨Gr, 0, none⟩) n n)).frozen? ⟨w.heap.size + 1, 0, none⟩ = false := by go_simp
  have f1n : (w12.setCell ⟨w.heap.size + 1, 4, none⟩ (.slice (some ⟨Gr, 0, none⟩) n n)).frozen? ⟨w.heap.size + 1 + 1, 1, none⟩ = false := by go_simp
  have g1n : (w12.setCell ⟨w.heap.size + 1, 4, none⟩ (.slice (some ⟨Gr, 0, none⟩) n n)).frozen? ⟨w.heap.size + 1, 1, none⟩ = false := by go_simp
  have f2n : (w12.setCell ⟨w.heap.size + 1, 4, none⟩ (.slice (some ⟨Gr, 0, none⟩) n n)).frozen? ⟨w.heap.size + 1 + 1, 2, none⟩ = false := by go_simp
  have g2n : (w12.setCell ⟨w.heap.size + 1, 4, none⟩ (.slice (some ⟨Gr, 0, none⟩) n n)).frozen? ⟨w.heap.size + 1, 2, none⟩ = false := by go_simp
  have f3n : (w12.setCell ⟨w.heap.size + 1, 4, none⟩ (.slice (some ⟨Gr, 0, none⟩) n n)).frozen? ⟨w.heap.size + 1 + 1, 3, none⟩ = false := by go_simp
  have g3n : (w12.setCell ⟨w.heap.size + 1, 4, none⟩ (.slice (some ⟨Gr, 0, none⟩) n n)).frozen? ⟨w.heap.size + 1, 3, none⟩ = false := by go_simp
  have f4n : (w12.setCell ⟨w.heap.size + 1, 4, none⟩ (.slice (some ⟨Gr, 0, none⟩) n n)).frozen? ⟨w.heap.size + 1 + 1, 4, none⟩ = false := by go_simp
  have g4n : (w12.setCell ⟨w.heap.size + 1, 4, none⟩ (.slice (some ⟨Gr, 0, none⟩) n n)).frozen? ⟨w.heap.size + 1, 4, none⟩ = false := by go_simp
  have HSn : Hid (w.heap.size + 3 ≤ (w12.setCell ⟨w.heap.size + 1, 4, none⟩ (.slice (some ⟨Gr, 0, none⟩) n n)).heap.size) := Lib.hid (by have := HS.out; simpa using this)
  have HBn : Hid (Below w.heap.size w (w12.setCell ⟨w.heap.size + 1, 4, none⟩ (.slice (some ⟨Gr, 0, none⟩) n n))) := Lib.hid (HB.out.setCell (by show w.heap.size ≤ w.heap.size + 1; omega) _)
  have OVn : Hid (OwnI (w12.setCell ⟨w.heap.size + 1, 4, none⟩ (.slice (some ⟨Gr, 0, none⟩) n n)) Gv vn vn v) := Lib.hid (OV.out.far (by show _; simp only; omega) _)
  have OCn : Hid (OwnI (w12.setCell ⟨w.heap.size + 1, 4, none⟩ (.slice (some ⟨Gr, 0, none⟩) n n)) Gc cn cn c) := Lib.hid (OC.out.far (by show _; simp only; omega) _)
  have ORn : Hid (OwnL (w12.setCell ⟨w.heap.size + 1, 4, none⟩ (.slice (some ⟨Gr, 0, none⟩) n n)) Gr n n r) := Lib.hid (OR.out.far (by show _; simp only; omega) _)
  clear a1 a2 a3 a4 o0 o1 o2 o3 o4 r0 r1 r2 r3 r4 f0 f1 f2 f3 f4 g0 g1 g2 g3 g4 HS HB OV OC OR
  have a1 := a1n
  have a2 := a2n
  have a3 := a3n
  have a4 := a4n
  have o0 := o0n
  have o1 := o1n
  have o2 := o2n
  have o3 := o3n
  have o4 := o4n
  have r0 := r0n
  have r1 := r1n
  have r2 := r2n
  have r3 := r3n
  have r4 := r4n
  have f0 := f0n
  have f1 := f1n
  have f2 := f2n
  have f3 := f3n
  have f4 := f4n
  have g0 := g0n
  have g1 := g1n
  have g2 := g2n
  have g3 := g3n
  have g4 := g4n
  have HS := HSn
  have HB := HBn
  have OV := OVn
  have OC := OCn
  have OR := ORn
  clear a1n a2n a3n a4n o0n o1n o2n o3n o4n r0n r1n r2n r3n r4n f0n f1n f2n f3n f4n g0n g1n g2n g3n g4n HSn HBn OVn OCn ORn
  generalize (w12.setCell ⟨w.heap.size + 1, 4, none⟩ (.slice (some ⟨Gr, 0, none⟩) n n)) = w13 at *
  refine bodyPost_ret (v := .agg #[.int .i64 k, .slice (some ⟨Gv, 0, none⟩) vn vn, .slice (some ⟨Gc, 0, none⟩) cn cn, .int .i64 bd, .slice (some ⟨Gr, 0, none⟩) n n]) (by simp [results, Try.results77, go_sem, r0, r1, r2, r3, r4]) rfl ⟨Gv, Gc, Gr, rfl, by omega, by omega, by omega, OV.out, OC.out, OR.out, HB.out⟩

set_option maxRecDepth 100000 in
set_option maxHeartbeats 1600000 in
theorem eqRule_refl (k bd : Int) (vn cn n : Nat) (v c : Nat → Int) (r : Nat → Lst) (Av Ac Ar Av' Ac' Ar' : Option Addr) (cv cc cr cv' cc' cr' : Nat) (w : World) (h1 : vn ≤ 1048576) (h2 : cn ≤ 1048576) (h3 : n ≤ 1048576) (h4 : ∀ i, i < n → (r i).n ≤ 1048576) (hv : RdI w w.heap.size Av vn v) (hc : RdI w w.heap.size Ac cn c) (hr : RdL w w.heap.size Ar n r) (hv' : RdI w w.heap.size Av' vn v) (hc' : RdI w w.heap.size Ac' cn c) (hr' : RdL w w.heap.size Ar' n r) :
    Calls Try.prog 81 #[.agg #[.int .i64 k, .slice Av vn cv, .slice Ac cn cc, .int .i64 bd, .slice Ar n cr], .agg #[.int .i64 k, .slice Av' vn cv', .slice Ac' cn cc', .int .i64 bd, .slice Ar' n cr']] w fun e w' => e = .returned (.bool true) ∧ Below w.heap.size w w' := by
  have HV := Lib.hid hv
  have HC := Lib.hid hc
  have HR := Lib.hid hr
  have HV' := Lib.hid hv'
  have HC' := Lib.hid hc'
  have HR' := Lib.hid hr'
  have H4 := Lib.hid h4
  clear hv hc hr hv' hc' hr' h4
  go_enter Try.func81, Try.ntmps81
  go_wp2_with fail
  have a1 : ((w.alloc (.cells #[.int .i64 k, .slice Av vn cv, .slice Ac cn cc, .int .i64 bd, .slice Ar n cr] 90)).alloc (.cells #[.int .i64 k, .slice Av' vn cv', .slice Ac' cn cc', .int .i64 bd, .slice Ar' n cr'] 90)).cell? ⟨w.heap.size, 1, none⟩ = some (.slice Av vn cv) := by go_simp
  have a2 : ((w.alloc (.cells #[.int .i64 k, .slice Av vn cv, .slice Ac cn cc, .int .i64 bd, .slice Ar n cr] 90)).alloc (.cells #[.int .i64 k, .slice Av' vn cv', .slice Ac' cn cc', .int .i64 bd, .slice Ar' n cr'] 90)).cell? ⟨w.heap.size, 2, none⟩ = some (.slice Ac cn cc) := by go_simp
  have a3 : ((w.alloc (.cells #[.int .i64 k, .slice Av vn cv, .slice Ac cn cc, .int .i64 bd, .slice Ar n cr] 90)).alloc (.cells #[.int .i64 k, .slice Av' vn cv', .slice Ac' cn cc', .int .i64 bd, .slice Ar' n cr'] 90)).cell? ⟨w.heap.size, 3, none⟩ = some (.int .i64 bd) := by go_simp
  have a4 : ((w.alloc (.cells #[.int .i64 k, .slice Av vn cv, .slice Ac cn cc, .int .i64 bd, .slice Ar n cr] 90)).alloc (.cells #[.int .i64 k, .slice Av' vn cv', .slice Ac' cn cc', .int .i64 bd, .slice Ar' n cr'] 90)).cell? ⟨w.heap.size, 4, none⟩ = some (.slice Ar n cr) := by go_simp
  have b1 : ((w.alloc (.cells #[.int .i64 k, .slice Av vn cv, .slice Ac cn cc, .int .i64 bd, .slice Ar n cr] 90)).alloc (.cells #[.int .i64 k, .slice Av' vn cv', .slice Ac' cn cc', .int .i64 bd, .slice Ar' n cr'] 90)).cell? ⟨w.heap.size + 1, 1, none⟩ = some (.slice Av' vn cv') := by go_simp
  have b2 : ((w.alloc (.cells #[.int .i64 k, .slice Av vn cv, .slice Ac cn cc, .int .i64 bd, .slice Ar n cr] 90)).alloc (.cells #[.int .i64 k, .slice Av' vn cv', .slice Ac' cn cc', .int .i64 bd, .slice Ar' n cr'] 90)).cell? ⟨w.heap.size + 1, 2, none⟩ = some (.slice Ac' cn cc') := by go_simp
  have b3 : ((w.alloc (.cells #[.int .i64 k, .slice Av vn cv, .slice Ac cn cc, .int .i64 bd, .slice Ar n cr] 90)).alloc (.cells #[.int .i64 k, .slice Av' vn cv', .slice Ac' cn cc', .int .i64 bd, .slice Ar' n cr'] 90)).cell? ⟨w.heap.size + 1, 3, none⟩ = some (.int .i64 bd) := by go_simp
  have b4 : ((w.alloc (.cells #[.int .i64 k, .slice Av vn cv, .slice Ac cn cc, .int .i64 bd, .slice Ar n cr] 90)).alloc (.cells #[.int .i64 k, .slice Av' vn cv', .slice Ac' cn cc', .int .i64 bd, .slice Ar' n cr'] 90)).cell? ⟨w.heap.size + 1, 4, none⟩ = some (.slice Ar' n cr') := by go_simp
  have HB := Lib.hid (bl_alloc (bl_alloc (Below.refl w.heap.size w) (.cells #[.int .i64 k, .slice Av vn cv, .slice Ac cn cc, .int .i64 bd, .slice Ar n cr] 90)) (.cells #[.int .i64 k, .slice Av' vn cv', .slice Ac' cn cc', .int .i64 bd, .slice Ar' n cr'] 90))
  generalize ((w.alloc (.cells #[.int .i64 k, .slice Av vn cv, .slice Ac cn cc, .int .i64 bd, .slice Ar n cr] 90)).alloc (.cells #[.int .i64 k, .slice Av' vn cv', .slice Ac' cn cc', .int .i64 bd, .slice Ar' n cr'] 90)) = w1 at *
  refine (eqIntS_refl _ _ _ _ _ v _ h1 (HV.out.later HB.out) (HV'.out.later HB.out)).mono ?_
  rintro e w2 ⟨rfl, hb⟩
  have HBn := Lib.hid (bl_trans HB.out hb)
  replace a1 := kc hb a1
  replace a2 := kc hb a2
  replace a3 := kc hb a3
  replace a4 := kc hb a4
  replace b1 := kc hb b1
  replace b2 := kc hb b2
  replace b3 := kc hb b3
  replace b4 := kc hb b4
  clear HB hb
  have HB := HBn
  clear HBn
  go_wp2_with fail
  refine (eqIntS_refl _ _ _ _ _ c _ h2 (HC.out.later HB.out) (HC'.out.later HB.out)).mono ?_
  rintro e w3 ⟨rfl, hb⟩
  have HBn := Lib.hid (bl_trans HB.out hb)
  replace a1 := kc hb a1
  replace a2 := kc hb a2
  replace a3 := kc hb a3
  replace a4 := kc hb a4
  replace b1 := kc hb b1
  replace b2 := kc hb b2
  replace b3 := kc hb b3
  replace b4 := kc hb b4
  clear HB hb
  have HB := HBn
  clear HBn
  go_wp2_with fail
  refine (eqIntSS_refl _ _ _ _ _ r _ h3 H4.out (HR.out.later HB.out) (HR'.out.later HB.out)).mono ?_
  rintro e w4 ⟨rfl, hb⟩
  have HBn := Lib.hid (bl_trans HB.out hb)
  replace a1 := kc hb a1
  replace a2 := kc hb a2
  replace a3 := kc hb a3
  replace a4 := kc hb a4
  replace b1 := kc hb b1
  replace b2 := kc hb b2
  replace b3 := kc hb b3
  replace b4 := kc hb b4
  clear HB hb
  have HB := HBn
  clear HBn
  go_wp2
  go_ret
  exact ⟨rfl, HB.out⟩
end Go.Proofs.Ytafiikfaeomhpaa
