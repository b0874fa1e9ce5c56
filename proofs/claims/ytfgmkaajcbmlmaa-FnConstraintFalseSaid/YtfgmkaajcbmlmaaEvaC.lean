/- The contract of the model's EvalConstraint, whole (no claim of its own). Conditions: as each theorem states. -/
import Derived.Test.YtfgmkaajcbmlmaaEvaB
namespace Go.Proofs.Ytfgmkaajcbmlmaa
open Go.ChangeShapes Go.WideShapes Go.ChangeAt Go.RowKit Go.Shelf

set_option maxRecDepth 100000 in
set_option maxHeartbeats 1000000 in
theorem specEval_any (A Av : Option Addr) (n cap nv capv : Nat) (bd : Int) (c l : Nat → Int) (v : Nat → Bool) (w : World) (hn : n ≤ 1048576) (hr : Rd w w.heap.size A n c l) (hrv : RdB w w.heap.size Av nv v) :
    Calls Try.prog 27 #[.agg #[.slice A n cap, .int .i64 bd], .slice Av nv capv] w fun e w' => e = .returned (.bool (evalV n c l bd nv v)) ∧ Below w.heap.size w w' := by
  cases hv : validB n c l bd with
  | false =>
    have Hfin := Lib.hid (evalV_inv (nv := nv) (v := v) hv)
    have Hv := Lib.hid hv
    clear hv
    go_enter Try.func27, Try.ntmps27
    go_wp2_with fail
    refine (specValid_any _ _ _ _ c l _ hn (hr.later (bl_alloc (Below.refl _ _) _))).mono ?_
    rintro e w1 ⟨rfl, hb⟩
    have HB1 := Lib.hid (bl_trans (bl_alloc (Below.refl w.heap.size w) _) hb)
    clear hb
    rw [Hv.out]
    go_wp2
    go_ret
    exact ⟨ret_bool Hfin.out.symm, HB1.out⟩
  | true =>
    by_cases hnv : nv = 12
    · subst hnv
      have Hv := Lib.hid hv
      clear hv
      go_enter Try.func27, Try.ntmps27
      go_wp2_with fail
      refine (specValid_any _ _ _ _ c l _ hn (hr.later (bl_alloc (Below.refl _ _) _))).mono ?_
      rintro e w1 ⟨rfl, hb⟩
      have HB1 := Lib.hid (bl_trans (bl_alloc (Below.refl w.heap.size w) _) hb)
      have a0 : w1.cell? ⟨w.heap.size, 0, none⟩ = some (.slice A n cap) := kc hb (by go_simp)
      have a1 : w1.cell? ⟨w.heap.size, 1, none⟩ = some (.int .i64 bd) := kc hb (by go_simp)
      clear hb
      rw [Hv.out]
      go_wp2_with fail
      refine (l1Eval_any _ _ _ _ _ _ c l v _ hn (hr.later HB1.out) (hrv.later HB1.out) Hv.out).mono ?_
      rintro e w2 ⟨rfl, hb⟩
      have HB2 := Lib.hid (bl_trans HB1.out hb)
      clear hb
      go_wp2
      go_ret
      exact ⟨rfl, HB2.out⟩
    · have Hfin := Lib.hid (evalV_len (n := n) (c := c) (l := l) (bd := bd) (v := v) hnv)
      have Hv := Lib.hid hv
      have hd : ((nv : Int) == 12) = false := by rw [beq_eq_false_iff_ne]; omega
      clear hv hnv
      go_enter Try.func27, Try.ntmps27
      go_wp2_with fail
      refine (specValid_any _ _ _ _ c l _ hn (hr.later (bl_alloc (Below.refl _ _) _))).mono ?_
      rintro e w1 ⟨rfl, hb⟩
      have HB1 := Lib.hid (bl_trans (bl_alloc (Below.refl w.heap.size w) _) hb)
      clear hb
      rw [Hv.out]
      go_wp2
      go_ret
      exact ⟨ret_bool Hfin.out.symm, HB1.out⟩
end Go.Proofs.Ytfgmkaajcbmlmaa
