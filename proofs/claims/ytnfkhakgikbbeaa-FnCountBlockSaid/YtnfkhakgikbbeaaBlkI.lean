/- Contract of the program's BlockingClause (no claim of its own). Conditions: as each theorem states. -/
import Derived.Test.YtnfkhakgikbbeaaBlkP
namespace Go.Proofs.Ytnfkhakgikbbeaa
open Go.ChangeShapes Go.WideShapes Go.ChangeAt Go.RowKit

set_option maxRecDepth 100000 in
set_option maxHeartbeats 1600000 in
theorem implBlock_any (A : Option Addr) (n cap : Nat) (v : Nat → Bool) (w : World) (hn : n ≤ 1048576) (hr : RdB w w.heap.size A n v) :
    Calls Try.prog 12 #[.slice A n cap] w (CRes w (bcN n v) one1 (rL (clF 12 (blkL v))) (bcD n v) (bcB n v)) := by
  by_cases h12 : n = 12
  · subst h12
    have HX := Lib.hid (show bcN 12 v = clN 12 (blkL v) ∧ bcD 12 v = clD 12 (blkL v) ∧ bcB 12 v = clB 12 (blkL v) from ⟨(blk_nums v).1.symm, (blk_nums v).2.symm, (blk_ok v).symm⟩)
    have HR := Lib.hid hr
    have HV := Lib.hid (show (fun i => -(truL v i)) = blkL v from funext (blk_tru v))
    have HF := Lib.hid (show ∀ i, i < 12 → -1048576 ≤ truL v i ∧ truL v i ≤ 1048576 from fun i hi => by unfold truL; split <;> omega)
    clear hr
    go_enter Try.func12, Try.ntmps12
    go_wp2_with fail
    refine (trueLitsB_any _ _ _ v _ (by omega) (HR.out.later (by repeat (first | exact Below.refl _ _ | refine bl_alloc ?_ _)))).mono ?_
    rintro e w1 ⟨A1, cap1, rfl, hr1, hb⟩
    have HB1 := Lib.hid (bl_trans (bl_alloc (Below.refl w.heap.size w) _) hb)
    have r0 : w1.cell? ⟨w.heap.size, 0, none⟩ = some (.slice none 0 0) := kc hb (by go_simp)
    have r1 : w1.cell? ⟨w.heap.size, 1, none⟩ = some (.int .i64 0) := kc hb (by go_simp)
    have f0 : w1.frozen? ⟨w.heap.size, 0, none⟩ = false := kf hb (by simp) (by go_simp)
    have f1 : w1.frozen? ⟨w.heap.size, 1, none⟩ = false := kf hb (by simp) (by go_simp)
    have q1 : w.heap.size < w1.heap.size := World.block_lt_of_cell? w1 _ r0
    have HR1 := Lib.hid hr1
    clear hb hr1
    go_wp2_with fail
    refine (negations_any _ _ _ (truL v) _ (by omega) HF.out HR1.out).mono ?_
    rintro e w2 ⟨A2, cap2, rfl, hr2, hb⟩
    rw [HV.out] at hr2
    have HB2 := Lib.hid (bl_trans HB1.out hb)
    replace r0 := kc hb r0
    replace r1 := kc hb r1
    replace f0 := kf hb q1 f0
    replace f1 := kf hb q1 f1
    have q2 : w.heap.size < w2.heap.size := World.block_lt_of_cell? w2 _ r0
    have HR2 := Lib.hid hr2
    clear hb hr2
    go_wp2_with fail
    refine (implClause_any _ _ _ (blkL v) _ (by omega) HR2.out).mono ?_
    rintro e w3 ⟨A3, cap3, rfl, hF, hb⟩
    have HB3 := Lib.hid (bl_trans HB2.out hb)
    have HF3 := Lib.hid (hF.more (B' := w.heap.size + 1) (by omega))
    replace r0 := kc hb r0
    replace r1 := kc hb r1
    replace f0 := kf hb q2 f0
    replace f1 := kf hb q2 f1
    clear hb hF
    go_wp2
    refine bodyPost_ret (v := .tuple #[.agg #[.slice A3 (clN 12 (blkL v)) cap3, .int .i64 (clD 12 (blkL v))], .bool (clB 12 (blkL v))]) (by simp [results, Try.results12, go_sem, r0, r1]) rfl ?_
    obtain ⟨x1, x2, x3⟩ := HX.out
    rw [x1, x2, x3]
    exact ⟨A3, cap3, rfl, ((HF3.out.far' (by simp) (by simp) _).far' (by simp) (by simp) _).more (by omega), (HB3.out.setCell (by simp) _).setCell (by simp) _⟩
  · have hni : ¬ (n : Int) = 12 := by omega
    have hX : bcN n v = 0 ∧ bcD n v = 0 ∧ bcB n v = false := ⟨if_neg h12, if_neg h12, by simp [bcB, h12]⟩
    rw [hX.1, hX.2.1, hX.2.2]
    clear hX hr
    go_enter Try.func12, Try.ntmps12
    go_wp2
    refine bodyPost_ret (v := .tuple #[.agg #[.slice none 0 0, .int .i64 0], .bool false]) (by simp [results, Try.results12, go_sem]) rfl ?_
    exact ⟨none, 0, rfl, .inl rfl, by repeat (first | exact Below.refl _ _ | refine bl_alloc ?_ _ | refine Below.setCell ?_ (by simp) _)⟩
end Go.Proofs.Ytnfkhakgikbbeaa
