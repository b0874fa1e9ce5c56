/- Contracts of the program's NormalForm (no claim of its own). Conditions: as each theorem states. -/
import Derived.Test.YtkahehfcedcpaaaNormE
namespace Go.Proofs.Ytkahehfcedcpaaa
open Go.ChangeShapes Go.WideShapes Go.ChangeAt Go.RowKit

set_option maxRecDepth 100000 in
set_option maxHeartbeats 1600000 in
theorem implNF_any (A : Option Addr) (n cap : Nat) (bd : Int) (c l : Nat → Int) (w : World) (hn : n ≤ 1048576) (hr : Rd w w.heap.size A n c l) :
    Calls Try.prog 20 #[.slice A n cap, .int .i64 bd] w (NfRes w n c l bd) := by
  cases hv : preB n c l bd with
  | false =>
    have Hv := Lib.hid hv
    clear hv
    go_enter Try.func20, Try.ntmps20
    go_wp2_with fail
    refine (canNorm_any _ _ _ _ c l _ hn (hr.later (bl_alloc (Below.refl _ _) _))).mono ?_
    rintro e w1 ⟨rfl, hb⟩
    have HB1 := Lib.hid (bl_trans (bl_alloc (Below.refl w.heap.size w) _) hb)
    have r0 : w1.cell? ⟨w.heap.size, 0, none⟩ = some (.slice none 0 0) := kc hb (by go_simp)
    have r1 : w1.cell? ⟨w.heap.size, 1, none⟩ = some (.int .i64 0) := kc hb (by go_simp)
    have f0 : w1.frozen? ⟨w.heap.size, 0, none⟩ = false := kf hb (by simp) (by go_simp)
    have f1 : w1.frozen? ⟨w.heap.size, 1, none⟩ = false := kf hb (by simp) (by go_simp)
    clear hb
    rw [Hv.out]
    go_wp2
    refine bodyPost_ret (v := .tuple #[.agg #[.slice none 0 0, .int .i64 0], .bool false]) (by simp [results, Try.results20, go_sem, r0, r1]) rfl ?_
    refine nfRes_no Hv.out ?_
    exact (HB1.out.setCell (by simp) _).setCell (by simp) _
  | true =>
    have Hv := Lib.hid hv
    have Ha := Lib.hid (preB_iff.1 hv)
    clear hv
    go_enter Try.func20, Try.ntmps20
    go_wp2_with fail
    refine (canNorm_any _ _ _ _ c l _ hn (hr.later (bl_alloc (Below.refl _ _) _))).mono ?_
    rintro e w1 ⟨rfl, hb⟩
    have HB1 := Lib.hid (bl_trans (bl_alloc (Below.refl w.heap.size w) _) hb)
    have r0 : w1.cell? ⟨w.heap.size, 0, none⟩ = some (.slice none 0 0) := kc hb (by go_simp)
    have r1 : w1.cell? ⟨w.heap.size, 1, none⟩ = some (.int .i64 0) := kc hb (by go_simp)
    have f0 : w1.frozen? ⟨w.heap.size, 0, none⟩ = false := kf hb (by simp) (by go_simp)
    have f1 : w1.frozen? ⟨w.heap.size, 1, none⟩ = false := kf hb (by simp) (by go_simp)
    have q1 : w.heap.size < w1.heap.size := World.block_lt_of_cell? w1 _ r0
    clear hb
    rw [Hv.out]
    go_wp2_with fail
    refine (implNorm_x _ _ _ _ c l _ hn (hr.later HB1.out) Ha.out.1).mono ?_
    rintro e w2 ⟨A2, cap2, rfl, hF, hb⟩
    have HB2 := Lib.hid (bl_trans HB1.out hb)
    replace r0 := kc hb r0
    replace r1 := kc hb r1
    replace f0 := kf hb q1 f0
    replace f1 := kf hb q1 f1
    have q2 : w.heap.size < w2.heap.size := World.block_lt_of_cell? w2 _ r0
    have hF2 := hF.more (B' := w.heap.size + 1) (by omega)
    have hRl : (nfR n c l).length ≤ 1048576 := by have := rowsN_length (net c l n) 12; unfold nfR; omega
    clear hb hF
    go_wp2_with fail
    refine (implValid_any _ _ _ _ (rC (nfR n c l)) (rL (nfR n c l)) _ hRl (hF2.below (bl_alloc (Below.refl w2.heap.size w2) (.cells #[.slice A2 (nfR n c l).length cap2, .int .i64 (capB (nfb n c l bd))] 29))).rdAt).mono ?_
    rintro e w3 ⟨rfl, hb1⟩
    have p0 : w3.cell? ⟨w2.heap.size, 0, none⟩ = some (.slice A2 (nfR n c l).length cap2) := kc hb1 (by go_simp)
    have p1 : w3.cell? ⟨w2.heap.size, 1, none⟩ = some (.int .i64 (capB (nfb n c l bd))) := kc hb1 (by go_simp)
    have hb := bl_trans (bl_alloc (Below.refl w2.heap.size w2) (.cells #[.slice A2 (nfR n c l).length cap2, .int .i64 (capB (nfb n c l bd))] 29)) hb1
    have HB3 := Lib.hid (bl_trans HB2.out hb)
    have HF3 := Lib.hid (hF2.below hb)
    replace r0 := kc hb r0
    replace r1 := kc hb r1
    replace f0 := kf hb q2 f0
    replace f1 := kf hb q2 f1
    clear hb hb1 hF2
    cases hok : validB (nfR n c l).length (rC (nfR n c l)) (rL (nfR n c l)) (capB (nfb n c l bd)) with
    | false =>
      have HX := Lib.hid (show fitN (nfR n c l) (nfb n c l bd) = 0 ∧ fitD (nfR n c l) (nfb n c l bd) = 0 ∧ fitB (nfR n c l) (nfb n c l bd) = false from ⟨by unfold fitN fitB; rw [hok]; rfl, by unfold fitD fitB; rw [hok]; rfl, hok⟩)
      clear hok
      go_wp2
      refine bodyPost_ret (v := .tuple #[.agg #[.slice none 0 0, .int .i64 0], .bool false]) (by simp [results, Try.results20, go_sem, r0, r1]) rfl ?_
      refine nfRes_yes Hv.out ?_
      obtain ⟨x1, x2, x3⟩ := HX.out
      rw [x1, x2, x3]
      exact ⟨none, 0, rfl, .inl rfl, (HB3.out.setCell (by simp) _).setCell (by simp) _⟩
    | true =>
      have HX := Lib.hid (show fitN (nfR n c l) (nfb n c l bd) = (nfR n c l).length ∧ fitD (nfR n c l) (nfb n c l bd) = capB (nfb n c l bd) ∧ fitB (nfR n c l) (nfb n c l bd) = true from ⟨by unfold fitN fitB; rw [hok]; rfl, by unfold fitD fitB; rw [hok]; rfl, hok⟩)
      clear hok
      go_wp2
      refine bodyPost_ret (v := .tuple #[.agg #[.slice A2 (nfR n c l).length cap2, .int .i64 (capB (nfb n c l bd))], .bool true]) (by simp [results, Try.results20, go_sem, r0, r1]) rfl ?_
      refine nfRes_yes Hv.out ?_
      obtain ⟨x1, x2, x3⟩ := HX.out
      rw [x1, x2, x3]
      exact ⟨_, _, rfl, ((HF3.out.far (by simp) (by simp) _).far (by simp) (by simp) _).more (by omega), (HB3.out.setCell (by simp) _).setCell (by simp) _⟩
end Go.Proofs.Ytkahehfcedcpaaa
