/- Contracts of the helpers over models of the exact laws (no claim of its own). Conditions: as each theorem states. -/
import Derived.Test.YtafiikfaeomhpaaMdlD
namespace Go.Proofs.Ytafiikfaeomhpaa
open Go.ChangeShapes Go.WideShapes Go.ChangeAt Go.RowKit

set_option maxRecDepth 100000 in
set_option maxHeartbeats 800000 in
theorem szModel_any (sn n : Nat) (q : Nat → Rul) (As Ar : Option Addr) (cs cr : Nat) (left : Int) (w : World) (h0 : 0 ≤ left) (h1 : left ≤ 1048576) (m1 : sn ≤ maxLen) (m3 : n ≤ maxLen) (m4 : ∀ i, i < n → (q i).fit maxLen) (hr : RdRs w w.heap.size Ar n q) :
    Calls Try.prog 9 #[.agg #[.slice As sn cs, .slice Ar n cr], .int .i64 left] w fun e w' => e = .returned (.int .i64 (szO left (sn + (n + totR q n)))) ∧ Below w.heap.size w w' := by
  have M4 := Lib.hid m4
  have HR := Lib.hid hr
  clear m4 hr
  have HA := Lib.hid (bl_alloc (Below.refl w.heap.size w))
  by_cases q1 : (sn : Int) ≤ left
  · have E1 := Lib.hid (szO_yes q1)
    have g1 : ¬ (left - sn < 0) := by omega
    by_cases q3 : ((n + totR q n : Nat) : Int) ≤ left - sn
    · have E3 := Lib.hid (szO_yes q3)
      have g3 : ¬ (left - sn - ((n + totR q n : Nat) : Int) < 0) := by omega
      have EF := Lib.hid (szO_yes (left := left) (s := sn + (n + totR q n)) (by omega))
      go_enter Try.func9, Try.ntmps9
      go_wp2_with (first | (go_at_call 37; refine (szIntS_any _ _ _ _ _ (by omega) (by omega) m1).mono ?_; rintro e w' ⟨rfl, rfl⟩; rw [E1.out]) | (go_at_call 38; refine (szRuleS_any _ _ _ q _ _ (by omega) (by omega) m3 M4.out (HR.out.later (HA.out _))).mono ?_; rintro e w' ⟨rfl, hb1⟩; rw [E3.out]))
      go_ret
      exact ⟨ret_int (by rw [EF.out]; omega), bl_trans (HA.out _) hb1⟩
    · have E3 := Lib.hid (szO_no (left := left - sn) (s := n + totR q n) (by omega))
      have EF := Lib.hid (szO_no (left := left) (s := sn + (n + totR q n)) (by omega))
      go_enter Try.func9, Try.ntmps9
      go_wp2_with (first | (go_at_call 37; refine (szIntS_any _ _ _ _ _ (by omega) (by omega) m1).mono ?_; rintro e w' ⟨rfl, rfl⟩; rw [E1.out]) | (go_at_call 38; refine (szRuleS_any _ _ _ q _ _ (by omega) (by omega) m3 M4.out (HR.out.later (HA.out _))).mono ?_; rintro e w' ⟨rfl, hb1⟩; rw [E3.out]))
      go_ret
      exact ⟨ret_int EF.out.symm, bl_trans (HA.out _) hb1⟩
  · have E1 := Lib.hid (szO_no (left := left) (s := sn) (by omega))
    have EF := Lib.hid (szO_no (left := left) (s := sn + (n + totR q n)) (by omega))
    go_enter Try.func9, Try.ntmps9
    go_wp2_with (go_at_call 37; refine (szIntS_any _ _ _ _ _ (by omega) (by omega) m1).mono ?_; rintro e w' ⟨rfl, rfl⟩; rw [E1.out])
    go_ret
    exact ⟨ret_int EF.out.symm, HA.out _⟩

theorem OwnRs.far {w : World} {G n k : Nat} {q : Nat → Rul} (h : OwnRs w G n k q) {p : Addr} (hp : p.block < G) (u : Value) : OwnRs (w.setCell p u) G n k q := by
  obtain ⟨cs, hh, h1, h2⟩ := h
  refine ⟨cs, (Below.heap_setCell w p u G (by omega)).trans hh, h1, fun i hi => ?_⟩
  obtain ⟨gv, gc, gr, g1, g2, g3, c0, c1, c2, c3, c4, v, c, r⟩ := h2 i hi
  exact ⟨gv, gc, gr, g1, g2, g3, c0, c1, c2, c3, c4, v.far (by omega) _, c.far (by omega) _, r.far (by omega) _⟩

set_option maxRecDepth 100000 in
set_option maxHeartbeats 1600000 in
theorem toModel_any (sn n : Nat) (s : Nat → Int) (q : Nat → Rul) (As Ar : Option Addr) (cs cr : Nat) (w : World) (h1 : sn ≤ 1048576) (h3 : n ≤ 1048576) (h4 : ∀ i, i < n → (q i).fit 1048576) (hs : RdI w w.heap.size As sn s) (hr : RdRs w w.heap.size Ar n q) :
    Calls Try.prog 11 #[.agg #[.slice As sn cs, .slice Ar n cr]] w fun e w' =>
      ∃ Gs Gr, e = .returned (.agg #[.slice (some ⟨Gs, 0, none⟩) sn sn, .slice (some ⟨Gr, 0, none⟩) n n]) ∧ w.heap.size ≤ Gs ∧ w.heap.size ≤ Gr ∧ OwnI w' Gs sn sn s ∧ OwnRs w' Gr n n q ∧ Below w.heap.size w w' := by
  have HV := Lib.hid hs
  have HR := Lib.hid hr
  have H4 := Lib.hid h4
  clear hs hr h4
  go_enter Try.func11, Try.ntmps11
  go_wp2_with fail
  have a1 : (((w.alloc (.cells #[.slice As sn cs, .slice Ar n cr] 25)).alloc (.cells #[.slice none 0 0, .slice none 0 0] 30)).alloc (.cells #[.slice none 0 0, .slice none 0 0] 30)).cell? ⟨w.heap.size, 1, none⟩ = some (.slice Ar n cr) := by go_simp
  have o0 : (((w.alloc (.cells #[.slice As sn cs, .slice Ar n cr] 25)).alloc (.cells #[.slice none 0 0, .slice none 0 0] 30)).alloc (.cells #[.slice none 0 0, .slice none 0 0] 30)).cell? ⟨w.heap.size + 1 + 1, 0, none⟩ = some (.slice none 0 0) := by go_simp
  have o1 : (((w.alloc (.cells #[.slice As sn cs, .slice Ar n cr] 25)).alloc (.cells #[.slice none 0 0, .slice none 0 0] 30)).alloc (.cells #[.slice none 0 0, .slice none 0 0] 30)).cell? ⟨w.heap.size + 1 + 1, 1, none⟩ = some (.slice none 0 0) := by go_simp
  have r0 : (((w.alloc (.cells #[.slice As sn cs, .slice Ar n cr] 25)).alloc (.cells #[.slice none 0 0, .slice none 0 0] 30)).alloc (.cells #[.slice none 0 0, .slice none 0 0] 30)).cell? ⟨w.heap.size + 1, 0, none⟩ = some (.slice none 0 0) := by go_simp
  have r1 : (((w.alloc (.cells #[.slice As sn cs, .slice Ar n cr] 25)).alloc (.cells #[.slice none 0 0, .slice none 0 0] 30)).alloc (.cells #[.slice none 0 0, .slice none 0 0] 30)).cell? ⟨w.heap.size + 1, 1, none⟩ = some (.slice none 0 0) := by go_simp
  have f0 : (((w.alloc (.cells #[.slice As sn cs, .slice Ar n cr] 25)).alloc (.cells #[.slice none 0 0, .slice none 0 0] 30)).alloc (.cells #[.slice none 0 0, .slice none 0 0] 30)).frozen? ⟨w.heap.size + 1 + 1, 0, none⟩ = false := by go_simp
  have g0 : (((w.alloc (.cells #[.slice As sn cs, .slice Ar n cr] 25)).alloc (.cells #[.slice none 0 0, .slice none 0 0] 30)).alloc (.cells #[.slice none 0 0, .slice none 0 0] 30)).frozen? ⟨w.heap.size + 1, 0, none⟩ = false := by go_simp
  have f1 : (((w.alloc (.cells #[.slice As sn cs, .slice Ar n cr] 25)).alloc (.cells #[.slice none 0 0, .slice none 0 0] 30)).alloc (.cells #[.slice none 0 0, .slice none 0 0] 30)).frozen? ⟨w.heap.size + 1 + 1, 1, none⟩ = false := by go_simp
  have g1 : (((w.alloc (.cells #[.slice As sn cs, .slice Ar n cr] 25)).alloc (.cells #[.slice none 0 0, .slice none 0 0] 30)).alloc (.cells #[.slice none 0 0, .slice none 0 0] 30)).frozen? ⟨w.heap.size + 1, 1, none⟩ = false := by go_simp
  have HS : Hid (w.heap.size + 3 ≤ (((w.alloc (.cells #[.slice As sn cs, .slice Ar n cr] 25)).alloc (.cells #[.slice none 0 0, .slice none 0 0] 30)).alloc (.cells #[.slice none 0 0, .slice none 0 0] 30)).heap.size) := Lib.hid (by simp)
  have HB := Lib.hid (bl_alloc (bl_alloc (bl_alloc (Below.refl w.heap.size w) (.cells #[.slice As sn cs, .slice Ar n cr] 25)) (.cells #[.slice none 0 0, .slice none 0 0] 30)) (.cells #[.slice none 0 0, .slice none 0 0] 30))
  generalize (((w.alloc (.cells #[.slice As sn cs, .slice Ar n cr] 25)).alloc (.cells #[.slice none 0 0, .slice none 0 0] 30)).alloc (.cells #[.slice none 0 0, .slice none 0 0] 30)) = w1 at *
  refine (toIntS_any _ _ _ s _ h1 (HV.out.later HB.out)).mono ?_
  rintro e w2 ⟨Gs, rfl, hGv, hov, hb⟩
  have hGv3 : w.heap.size + 3 ≤ Gs := Nat.le_trans HS.out hGv
  have OV := Lib.hid hov
  clear hov hGv
  have HSn := Lib.hid (Nat.le_trans HS.out hb.size)
  have HBn := Lib.hid (bl_trans HB.out hb)
  replace f0 := kfz hb o0 f0
  replace g0 := kfz hb r0 g0
  replace f1 := kfz hb o1 f1
  replace g1 := kfz hb r1 g1
  replace a1 := kc hb a1
  replace o0 := kc hb o0
  replace o1 := kc hb o1
  replace r0 := kc hb r0
  replace r1 := kc hb r1
  clear HS HB hb 
  have HS := HSn
  have HB := HBn
  clear HSn HBn 
  go_wp2_with fail
  have a1n : (w2.setCell ⟨w.heap.size + 1 + 1, 0, none⟩ (.slice (some ⟨Gs, 0, none⟩) sn sn)).cell? ⟨w.heap.size, 1, none⟩ = some (.slice Ar n cr) := by go_simp
  have o0n : (w2.setCell ⟨w.heap.size + 1 + 1, 0, none⟩ (.slice (some ⟨Gs, 0, none⟩) sn sn)).cell? ⟨w.heap.size + 1 + 1, 0, none⟩ = some (.slice (some ⟨Gs, 0, none⟩) sn sn) := by go_simp
  have o1n : (w2.setCell ⟨w.heap.size + 1 + 1, 0, none⟩ (.slice (some ⟨Gs, 0, none⟩) sn sn)).cell? ⟨w.heap.size + 1 + 1, 1, none⟩ = some (.slice none 0 0) := by go_simp
  have r0n : (w2.setCell ⟨w.heap.size + 1 + 1, 0, none⟩ (.slice (some ⟨Gs, 0, none⟩) sn sn)).cell? ⟨w.heap.size + 1, 0, none⟩ = some (.slice none 0 0) := by go_simp
  have r1n : (w2.setCell ⟨w.heap.size + 1 + 1, 0, none⟩ (.slice (some ⟨Gs, 0, none⟩) sn sn)).cell? ⟨w.heap.size + 1, 1, none⟩ = some (.slice none 0 0) := by go_simp
  have f0n : (w2.setCell ⟨w.heap.size + 1 + 1, 0, none⟩ (.slice (some ⟨Gs, 0, none⟩) sn sn)).frozen? ⟨w.heap.size + 1 + 1, 0, none⟩ = false := by go_simp
  have g0n : (w2.setCell ⟨w.heap.size + 1 + 1, 0, none⟩ (.slice (some ⟨Gs, 0, none⟩) sn sn)).frozen? ⟨w.heap.size + 1, 0, none⟩ = false := by go_simp
  have f1n : (w2.setCell ⟨w.heap.size + 1 + 1, 0, none⟩ (.slice (some ⟨Gs, 0, none⟩) sn sn)).frozen? ⟨w.heap.size + 1 + 1, 1, none⟩ = false := by go_simp
  have g1n : (w2.setCell ⟨w.heap.size + 1 + 1, 0, none⟩ (.slice (some ⟨Gs, 0, none⟩) sn sn)).frozen? ⟨w.heap.size + 1, 1, none⟩ = false := by go_simp
  have HSn : Hid (w.heap.size + 3 ≤ (w2.setCell ⟨w.heap.size + 1 + 1, 0, none⟩ (.slice (some ⟨Gs, 0, none⟩) sn sn)).heap.size) := Lib.hid (by have := HS.out; simpa using this)
  have HBn : Hid (Below w.heap.size w (w2.setCell ⟨w.heap.size + 1 + 1, 0, none⟩ (.slice (some ⟨Gs, 0, none⟩) sn sn))) := Lib.hid (HB.out.setCell (by show w.heap.size ≤ w.heap.size + 1 + 1; omega) _)
  have OVn : Hid (OwnI (w2.setCell ⟨w.heap.size + 1 + 1, 0, none⟩ (.slice (some ⟨Gs, 0, none⟩) sn sn)) Gs sn sn s) := Lib.hid (OV.out.far (by show _; simp only; omega) _)
  clear a1 o0 o1 r0 r1 f0 f1 g0 g1 HS HB OV
  have a1 := a1n
  have o0 := o0n
  have o1 := o1n
  have r0 := r0n
  have r1 := r1n
  have f0 := f0n
  have f1 := f1n
  have g0 := g0n
  have g1 := g1n
  have HS := HSn
  have HB := HBn
  have OV := OVn
  clear a1n o0n o1n r0n r1n f0n f1n g0n g1n HSn HBn OVn
  generalize (w2.setCell ⟨w.heap.size + 1 + 1, 0, none⟩ (.slice (some ⟨Gs, 0, none⟩) sn sn)) = w3 at *
  refine (toRuleS_any _ _ _ q _ h3 H4.out (HR.out.later HB.out)).mono ?_
  rintro e w4 ⟨Gr, rfl, hGr, hor, hb⟩
  have hGr3 : w.heap.size + 3 ≤ Gr := Nat.le_trans HS.out hGr
  have OR := Lib.hid hor
  clear hor hGr
  have HSn := Lib.hid (Nat.le_trans HS.out hb.size)
  have HBn := Lib.hid (bl_trans HB.out hb)
  replace f0 := kfz hb o0 f0
  replace g0 := kfz hb r0 g0
  replace f1 := kfz hb o1 f1
  replace g1 := kfz hb r1 g1
  replace a1 := kc hb a1
  replace o0 := kc hb o0
  replace o1 := kc hb o1
  replace r0 := kc hb r0
  replace r1 := kc hb r1
  have OVn := Lib.hid (OV.out.below hb OV.out.lt)
  clear HS HB hb OV
  have HS := HSn
  have HB := HBn
  have OV := OVn
  clear HSn HBn OVn
  go_wp2_with fail
  have a1n : (w4.setCell ⟨w.heap.size + 1 + 1, 1, none⟩ (.slice (some ⟨Gr, 0, none⟩) n n)).cell? ⟨w.heap.size, 1, none⟩ = some (.slice Ar n cr) := by go_simp
  have o0n : (w4.setCell ⟨w.heap.size + 1 + 1, 1, none⟩ (.slice (some ⟨Gr, 0, none⟩) n n)).cell? ⟨w.heap.size + 1 + 1, 0, none⟩ = some (.slice (some ⟨Gs, 0, none⟩) sn sn) := by go_simp
  have o1n : (w4.setCell ⟨w.heap.size + 1 + 1, 1, none⟩ (.slice (some ⟨Gr, 0, none⟩) n n)).cell? ⟨w.heap.size + 1 + 1, 1, none⟩ = some (.slice (some ⟨Gr, 0, none⟩) n n) := by go_simp
  have r0n : (w4.setCell ⟨w.heap.size + 1 + 1, 1, none⟩ (.slice (some ⟨Gr, 0, none⟩) n n)).cell? ⟨w.heap.size + 1, 0, none⟩ = some (.slice none 0 0) := by go_simp
  have r1n : (w4.setCell ⟨w.heap.size + 1 + 1, 1, none⟩ (.slice (some ⟨Gr, 0, none⟩) n n)).cell? ⟨w.heap.size + 1, 1, none⟩ = some (.slice none 0 0) := by go_simp
  have f0n : (w4.setCell ⟨w.heap.size + 1 + 1, 1, none⟩ (.slice (some ⟨Gr, 0, none⟩) n n)).frozen? ⟨w.heap.size + 1 + 1, 0, none⟩ = false := by go_simp
  have g0n : (w4.setCell ⟨w.heap.size + 1 + 1, 1, none⟩ (.slice (some ⟨Gr, 0, none⟩) n n)).frozen? ⟨w.heap.size + 1, 0, none⟩ = false := by go_simp
  have f1n : (w4.setCell ⟨w.heap.size + 1 + 1, 1, none⟩ (.slice (some ⟨Gr, 0, none⟩) n n)).frozen? ⟨w.heap.size + 1 + 1, 1, none⟩ = false := by go_simp
  have g1n : (w4.setCell ⟨w.heap.size + 1 + 1, 1, none⟩ (.slice (some ⟨Gr, 0, none⟩) n n)).frozen? ⟨w.heap.size + 1, 1, none⟩ = false := by go_simp
  have HSn : Hid (w.heap.size + 3 ≤ (w4.setCell ⟨w.heap.size + 1 + 1, 1, none⟩ (.slice (some ⟨Gr, 0, none⟩) n n)).heap.size) := Lib.hid (by have := HS.out; simpa using this)
  have HBn : Hid (Below w.heap.size w (w4.setCell ⟨w.heap.size + 1 + 1, 1, none⟩ (.slice (some ⟨Gr, 0, none⟩) n n))) := Lib.hid (HB.out.setCell (by show w.heap.size ≤ w.heap.size + 1 + 1; omega) _)
  have OVn : Hid (OwnI (w4.setCell ⟨w.heap.size + 1 + 1, 1, none⟩ (.slice (some ⟨Gr, 0, none⟩) n n)) Gs sn sn s) := Lib.hid (OV.out.far (by show _; simp only; omega) _)
  have ORn : Hid (OwnRs (w4.setCell ⟨w.heap.size + 1 + 1, 1, none⟩ (.slice (some ⟨Gr, 0, none⟩) n n)) Gr n n q) := Lib.hid (OR.out.far (by show _; simp only; omega) _)
  clear a1 o0 o1 r0 r1 f0 f1 g0 g1 HS HB OV OR
  have a1 := a1n
  have o0 := o0n
  have o1 := o1n
  have r0 := r0n
  have r1 := r1n
  have f0 := f0n
  have f1 := f1n
  have g0 := g0n
  have g1 := g1n
  have HS := HSn
  have HB := HBn
  have OV := OVn
  have OR := ORn
  clear a1n o0n o1n r0n r1n f0n f1n g0n g1n HSn HBn OVn ORn
  generalize (w4.setCell ⟨w.heap.size + 1 + 1, 1, none⟩ (.slice (some ⟨Gr, 0, none⟩) n n)) = w5 at *
  have a1n : (w5.setCell ⟨w.heap.size + 1, 0, none⟩ (.slice (some ⟨Gs, 0, none⟩) sn sn)).cell? ⟨w.heap.size, 1, none⟩ = some (.slice Ar n cr) := by go_simp
  have o0n : (w5.setCell ⟨w.heap.size + 1, 0, none⟩ (.slice (some ⟨Gs, 0, none⟩) sn sn)).cell? ⟨w.heap.size + 1 + 1, 0, none⟩ = some (.slice (some ⟨Gs, 0, none⟩) sn sn) := by go_simp
  have o1n : (w5.setCell ⟨w.heap.size + 1, 0, none⟩ (.slice (some ⟨Gs, 0, none⟩) sn sn)).cell? ⟨w.heap.size + 1 + 1, 1, none⟩ = some (.slice (some ⟨Gr, 0, none⟩) n n) := by go_simp
  have r0n : (w5.setCell ⟨w.heap.size + 1, 0, none⟩ (.slice (some ⟨Gs, 0, none⟩) sn sn)).cell? ⟨w.heap.size + 1, 0, none⟩ = some (.slice (some ⟨Gs, 0, none⟩) sn sn) := by go_simp
  have r1n : (w5.setCell ⟨w.heap.size + 1, 0, none⟩ (.slice (some ⟨Gs, 0, none⟩) sn sn)).cell? ⟨w.heap.size + 1, 1, none⟩ = some (.slice none 0 0) := by go_simp
  have f0n : (w5.setCell ⟨w.heap.size + 1, 0, none⟩ (.slice (some ⟨Gs, 0, none⟩) sn sn)).frozen? ⟨w.heap.size + 1 + 1, 0, none⟩ = false := by go_simp
  have g0n : (w5.setCell ⟨w.heap.size + 1, 0, none⟩ (.slice (some ⟨Gs, 0, none⟩) sn sn)).frozen? ⟨w.heap.size + 1, 0, none⟩ = false := by go_simp
  have f1n : (w5.setCell ⟨w.heap.size + 1, 0, none⟩ (.slice (some ⟨Gs, 0, none⟩) sn sn)).frozen? ⟨w.heap.size + 1 + 1, 1, none⟩ = false := by go_simp
  have g1n : (w5.setCell ⟨w.heap.size + 1, 0, none⟩ (.slice (some ⟨Gs, 0, none⟩) sn sn)).frozen? ⟨w.heap.size + 1, 1, none⟩ = false := by go_simp
  have HSn : Hid (w.heap.size + 3 ≤ (w5.setCell ⟨w.heap.size + 1, 0, none⟩ (.slice (some ⟨Gs, 0, none⟩) sn sn)).heap.size) := Lib.hid (by have := HS.out; simpa using this)
  have HBn : Hid (Below w.heap.size w (w5.setCell ⟨w.heap.size + 1, 0, none⟩ (.slice (some ⟨Gs, 0, none⟩) sn sn))) := Lib.hid (HB.out.setCell (by show w.heap.size ≤ w.heap.size + 1; omega) _)
  have OVn : Hid (OwnI (w5.setCell ⟨w.heap.size + 1, 0, none⟩ (.slice (some ⟨Gs, 0, none⟩) sn sn)) Gs sn sn s) := Lib.hid (OV.out.far (by show _; simp only; omega) _)
  have ORn : Hid (OwnRs (w5.setCell ⟨w.heap.size + 1, 0, none⟩ (.slice (some ⟨Gs, 0, none⟩) sn sn)) Gr n n q) := Lib.hid (OR.out.far (by show _; simp only; omega) _)
  clear a1 o0 o1 r0 r1 f0 f1 g0 g1 HS HB OV OR
  have a1 := a1n
  have o0 := o0n
  have o1 := o1n
  have r0 := r0n
  have r1 := r1n
  have f0 := f0n
  have f1 := f1n
  have g0 := g0n
  have g1 := g1n
  have HS := HSn
  have HB := HBn
  have OV := OVn
  have OR := ORn
  clear a1n o0n o1n r0n r1n f0n f1n g0n g1n HSn HBn OVn ORn
  generalize (w5.setCell ⟨w.heap.size + 1, 0, none⟩ (.slice (some ⟨Gs, 0, none⟩) sn sn)) = w6 at *
  have a1n : (w6.setCell ⟨w.heap.size + 1, 1, none⟩ (.slice (some ⟨Gr, 0, none⟩) n n)).cell? ⟨w.heap.size, 1, none⟩ = some (.slice Ar n cr) := by go_simp
  have o0n : (w6.setCell ⟨w.heap.size + 1, 1, none⟩ (.slice (some ⟨Gr, 0, none⟩) n n)).cell? ⟨w.heap.size + 1 + 1, 0, none⟩ = some (.slice (some ⟨Gs, 0, none⟩) sn sn) := by go_simp
  have o1n : (w6.setCell ⟨w.heap.size + 1, 1, none⟩ (.slice (some ⟨Gr, 0, none⟩) n n)).cell? ⟨w.heap.size + 1 + 1, 1, none⟩ = some (.slice (some ⟨Gr, 0, none⟩) n n) := by go_simp
  have r0n : (w6.setCell ⟨w.heap.size + 1, 1, none⟩ (.slice (some ⟨Gr, 0, none⟩) n n)).cell? ⟨w.heap.size + 1, 0, none⟩ = some (.slice (some ⟨Gs, 0, none⟩) sn sn) := by go_simp
  have r1n : (w6.setCell ⟨w.heap.size + 1, 1, none⟩ (.slice (some ⟨Gr, 0, none⟩) n n)).cell? ⟨w.heap.size + 1, 1, none⟩ = some (.slice (some ⟨Gr, 0, none⟩) n n) := by go_simp
  have f0n : (w6.setCell ⟨w.heap.size + 1, 1, none⟩ (.slice (some ⟨Gr, 0, none⟩) n n)).frozen? ⟨w.heap.size + 1 + 1, 0, none⟩ = false := by go_simp
  have g0n : (w6.setCell ⟨w.heap.size + 1, 1, none⟩ (.slice (some ⟨Gr, 0, none⟩) n n)).frozen? ⟨w.heap.size + 1, 0, none⟩ = false := by go_simp
  have f1n : (w6.setCell ⟨w.heap.size + 1, 1, none⟩ (.slice (some ⟨Gr, 0, none⟩) n n)).frozen? ⟨w.heap.size + 1 + 1, 1, none⟩ = false := by go_simp
  have g1n : (w6.setCell ⟨w.heap.size + 1, 1, none⟩ (.slice (some ⟨Gr, 0, none⟩) n n)).frozen? ⟨w.heap.size + 1, 1, none⟩ = false := by go_simp
  have HSn : Hid (w.heap.size + 3 ≤ (w6.setCell ⟨w.heap.size + 1, 1, none⟩ (.slice (some ⟨Gr, 0, none⟩) n n)).heap.size) := Lib.hid (by have := HS.out; simpa using this)
  have HBn : Hid (Below w.heap.size w (w6.setCell ⟨w.heap.size + 1, 1, none⟩ (.slice (some ⟨Gr, 0, none⟩) n n))) := Lib.hid (HB.out.setCell (by show w.heap.size ≤ w.heap.size + 1; omega) _)
  have OVn : Hid (OwnI (w6.setCell ⟨w.heap.size + 1, 1, none⟩ (.slice (some ⟨Gr, 0, none⟩) n n)) Gs sn sn s) := Lib.hid (OV.out.far (by show _; simp only; omega) _)
  have ORn : Hid (OwnRs (w6.setCell ⟨w.heap.size + 1, 1, none⟩ (.slice (some ⟨Gr, 0, none⟩) n n)) Gr n n q) := Lib.hid (OR.out.far (by show _; simp only; omega) _)
  clear a1 o0 o1 r0 r1 f0 f1 g0 g1 HS HB OV OR
  have a1 := a1n
  have o0 := o0n
  have o1 := o1n
  have r0 := r0n
  have r1 := r1n
  have f0 := f0n
  have f1 := f1n
  have g0 := g0n
  have g1 := g1n
  have HS := HSn
  have HB := HBn
  have OV := OVn
  have OR := ORn
  clear a1n o0n o1n r0n r1n f0n f1n g0n g1n HSn HBn OVn ORn
  generalize (w6.setCell ⟨w.heap.size + 1, 1, none⟩ (.slice (some ⟨Gr, 0, none⟩) n n)) = w7 at *
  refine bodyPost_ret (v := .agg #[.slice (some ⟨Gs, 0, none⟩) sn sn, .slice (some ⟨Gr, 0, none⟩) n n]) (by simp [results, Try.results11, go_sem, r0, r1]) rfl ⟨Gs, Gr, rfl, by omega, by omega, OV.out, OR.out, HB.out⟩

set_option maxRecDepth 100000 in
set_option maxHeartbeats 1600000 in
theorem eqModel_refl (sn n : Nat) (s : Nat → Int) (q : Nat → Rul) (As Ar As' Ar' : Option Addr) (cs cr cs' cr' : Nat) (w : World) (h1 : sn ≤ 1048576) (h3 : n ≤ 1048576) (h4 : ∀ i, i < n → (q i).fit 1048576) (hs : RdI w w.heap.size As sn s) (hr : RdRs w w.heap.size Ar n q) (hs' : RdI w w.heap.size As' sn s) (hr' : RdRs w w.heap.size Ar' n q) :
    Calls Try.prog 14 #[.agg #[.slice As sn cs, .slice Ar n cr], .agg #[.slice As' sn cs', .slice Ar' n cr']] w fun e w' => e = .returned (.bool true) ∧ Below w.heap.size w w' := by
  have HV := Lib.hid hs
  have HR := Lib.hid hr
  have HV' := Lib.hid hs'
  have HR' := Lib.hid hr'
  have H4 := Lib.hid h4
  clear hs hr hs' hr' h4
  go_enter Try.func14, Try.ntmps14
  go_wp2_with fail
  have a1 : ((w.alloc (.cells #[.slice As sn cs, .slice Ar n cr] 30)).alloc (.cells #[.slice As' sn cs', .slice Ar' n cr'] 30)).cell? ⟨w.heap.size, 1, none⟩ = some (.slice Ar n cr) := by go_simp
  have b1 : ((w.alloc (.cells #[.slice As sn cs, .slice Ar n cr] 30)).alloc (.cells #[.slice As' sn cs', .slice Ar' n cr'] 30)).cell? ⟨w.heap.size + 1, 1, none⟩ = some (.slice Ar' n cr') := by go_simp
  have HB := Lib.hid (bl_alloc (bl_alloc (Below.refl w.heap.size w) (.cells #[.slice As sn cs, .slice Ar n cr] 30)) (.cells #[.slice As' sn cs', .slice Ar' n cr'] 30))
  generalize ((w.alloc (.cells #[.slice As sn cs, .slice Ar n cr] 30)).alloc (.cells #[.slice As' sn cs', .slice Ar' n cr'] 30)) = w1 at *
  refine (eqIntS_refl _ _ _ _ _ s _ h1 (HV.out.later HB.out) (HV'.out.later HB.out)).mono ?_
  rintro e w2 ⟨rfl, hb⟩
  have HBn := Lib.hid (bl_trans HB.out hb)
  replace a1 := kc hb a1
  replace b1 := kc hb b1
  clear HB hb
  have HB := HBn
  clear HBn
  go_wp2_with fail
  refine (eqRuleS_refl _ _ _ _ _ q _ h3 H4.out (HR.out.later HB.out) (HR'.out.later HB.out)).mono ?_
  rintro e w4 ⟨rfl, hb⟩
  have HBn := Lib.hid (bl_trans HB.out hb)
  replace a1 := kc hb a1
  replace b1 := kc hb b1
  clear HB hb
  have HB := HBn
  clear HBn
  go_wp2
  go_ret
  exact ⟨rfl, HB.out⟩
end Go.Proofs.Ytafiikfaeomhpaa
