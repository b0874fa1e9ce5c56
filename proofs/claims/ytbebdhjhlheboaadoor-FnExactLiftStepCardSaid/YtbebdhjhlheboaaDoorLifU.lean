/- LiftStep: the reference, whole (no claim of its own). Conditions: as each theorem states. -/
import Derived.Test.YtbebdhjhlheboaaDoorLifT
namespace Go.Proofs.YtbebdhjhlheboaaDoor
open Go.ChangeShapes Go.WideShapes Go.ChangeAt Go.RowKit

set_option maxRecDepth 100000 in
set_option maxHeartbeats 3200000 in
theorem specLift_any (A Ax : Option Addr) (n cap m capx : Nat) (k a b bd : Int) (c l x : Nat → Int) (w : World) (hn : n ≤ 1048576) (hm : m ≤ 1048576) (hr : Rd w w.heap.size A n c l) (hx : RdI w w.heap.size Ax m x) :
    Calls Tryd.prog 6 #[.agg #[.int .i64 k, .int .i64 a, .int .i64 b, .slice A n cap, .int .i64 bd], .slice Ax m capx] w (LRes w (lifB k a b n c l bd m x) (lifN k a b n c l bd m x) (lifL n l m x)) := by
  have HA := Lib.hid (bl_alloc (bl_alloc (Below.refl w.heap.size w) (.cells #[.int .i64 k, .int .i64 a, .int .i64 b, .slice A n cap, .int .i64 bd] 33)) (.cells #[.int .i64 0, .int .i64 0, .int .i64 0, .slice none 0 0, .int .i64 0] 33))
  have HR0 := Lib.hid (hr.later HA.out)
  have HX0 := Lib.hid (hx.later HA.out)
  clear hr hx
  go_enter Tryd.func6, Tryd.ntmps6
  go_wp2_with fail
  refine (l12Cube_any Ax m capx x _ hm HX0.out).mono ?_
  rintro e w1 ⟨rfl, hb⟩
  have b0 : w1.cell? ⟨w.heap.size, 0, none⟩ = some (.int .i64 k) := kc hb (by go_simp)
  have b1 : w1.cell? ⟨w.heap.size, 1, none⟩ = some (.int .i64 a) := kc hb (by go_simp)
  have b2 : w1.cell? ⟨w.heap.size, 2, none⟩ = some (.int .i64 b) := kc hb (by go_simp)
  have b3 : w1.cell? ⟨w.heap.size, 3, none⟩ = some (.slice A n cap) := kc hb (by go_simp)
  have b4 : w1.cell? ⟨w.heap.size, 4, none⟩ = some (.int .i64 bd) := kc hb (by go_simp)
  have r0 : w1.cell? ⟨w.heap.size + 1, 0, none⟩ = some (.int .i64 0) := kc hb (by go_simp)
  have r1 : w1.cell? ⟨w.heap.size + 1, 1, none⟩ = some (.int .i64 0) := kc hb (by go_simp)
  have r2 : w1.cell? ⟨w.heap.size + 1, 2, none⟩ = some (.int .i64 0) := kc hb (by go_simp)
  have r3 : w1.cell? ⟨w.heap.size + 1, 3, none⟩ = some (.slice none 0 0) := kc hb (by go_simp)
  have r4 : w1.cell? ⟨w.heap.size + 1, 4, none⟩ = some (.int .i64 0) := kc hb (by go_simp)
  have f0 : w1.frozen? ⟨w.heap.size + 1, 0, none⟩ = false := kf hb (by simp) (by go_simp)
  have f1 : w1.frozen? ⟨w.heap.size + 1, 1, none⟩ = false := kf hb (by simp) (by go_simp)
  have f2 : w1.frozen? ⟨w.heap.size + 1, 2, none⟩ = false := kf hb (by simp) (by go_simp)
  have f3 : w1.frozen? ⟨w.heap.size + 1, 3, none⟩ = false := kf hb (by simp) (by go_simp)
  have f4 : w1.frozen? ⟨w.heap.size + 1, 4, none⟩ = false := kf hb (by simp) (by go_simp)
  have q1 : w.heap.size + 1 < w1.heap.size := World.block_lt_of_cell? w1 _ r0
  have HB1 := Lib.hid (bl_trans HA.out hb)
  have HR1 := Lib.hid (HR0.out.later hb)
  have HX1 := Lib.hid (HX0.out.later hb)
  clear hb HR0 HX0 HA
  cases hq : cubeB m x with
  | false =>
    have HF := Lib.hid (show lifB k a b n c l bd m x = false by unfold lifB; rw [hq]; simp)
    clear hq HR1 HX1
    go_wp2
    refine bodyPost_ret (v := .tuple #[.agg #[.int .i64 0, .int .i64 0, .int .i64 0, .slice none 0 0, .int .i64 0], .bool false]) (by simp [results, Tryd.results6, go_sem, r0, r1, r2, r3, r4]) rfl ?_
    exact lif_no HF.out (by repeat (first | exact HB1.out | refine Below.setCell ?_ (by simp) _))
  | true =>
    have HQ := Lib.hid hq
    clear hq
    go_wp2_with fail
    refine (l12Lift_any A Ax n cap m capx k a b bd c l x _ hn HR1.out HX1.out HQ.out).mono ?_
    rintro e w2 ⟨Ac, capc, rfl, hfr, hb⟩
    have HFr := Lib.hid (hfr.more (B' := w.heap.size + 2) (by omega))
    have HB2 := Lib.hid (bl_trans HB1.out hb)
    replace r0 := kc hb r0
    replace r1 := kc hb r1
    replace r2 := kc hb r2
    replace r3 := kc hb r3
    replace r4 := kc hb r4
    replace f0 := kf hb q1 f0
    replace f1 := kf hb q1 f1
    replace f2 := kf hb q1 f2
    replace f3 := kf hb q1 f3
    replace f4 := kf hb q1 f4
    have q2 : w.heap.size + 1 < w2.heap.size := World.block_lt_of_cell? w2 _ r0
    clear hfr hb HR1 HX1 HB1 b0 b1 b2 b3 b4
    generalize lifB k a b n c l bd m x = ok at *
    generalize lifN k a b n c l bd m x = N at *
    go_wp2
    refine bodyPost_ret (v := .tuple #[.agg #[.int .i64 (lifK ok), .int .i64 0, .int .i64 0, .slice Ac N capc, .int .i64 (lifD ok)], .bool ok]) (by simp [results, Tryd.results6, go_sem, r0, r1, r2, r3, r4]) rfl ?_
    exact ⟨Ac, capc, rfl, Frs.more (B := w.heap.size + 2) (((((HFr.out.far' (by simp) (by simp) _).far' (by simp) (by simp) _).far' (by simp) (by simp) _).far' (by simp) (by simp) _).far' (by simp) (by simp) _) (by omega), Below.setCell (Below.setCell (Below.setCell (Below.setCell (Below.setCell HB2.out (by simp) _) (by simp) _) (by simp) _) (by simp) _) (by simp) _⟩
end Go.Proofs.YtbebdhjhlheboaaDoor
