/- The contract of the program's ConstraintFalse (no claim of its own). Conditions: as each theorem states. -/
import Derived.Test.YtfgmkaajcbmlmaaNgtA
import Derived.Test.YtfgmkaajcbmlmaaClsA
namespace Go.Proofs.Ytfgmkaajcbmlmaa
open Go.ChangeShapes Go.WideShapes Go.ChangeAt Go.RowKit

/-- What ConstraintFalse answers. -/
def falseV (n : Nat) (c l : Nat → Int) (bd : Int) : Bool := validB n c l bd && decide (totW c l n < bd)

set_option maxRecDepth 100000 in
set_option maxHeartbeats 1600000 in
theorem implFalse_yes (A : Option Addr) (n cap : Nat) (bd : Int) (c l : Nat → Int) (w : World) (hn : n ≤ 1048576) (hr : Rd w w.heap.size A n c l) (hv : validB n c l bd = true) :
    Calls Try.prog 29 #[.agg #[.slice A n cap, .int .i64 bd]] w fun e w' => e = .returned (.bool (falseV n c l bd)) ∧ Below w.heap.size w w' := by
  have hfin : falseV n c l bd = decide (totW c l n < bd) := by simp [falseV, hv]
  have Hfin := Lib.hid hfin
  have Hv := Lib.hid hv
  clear hv hfin
  go_enter Try.func29, Try.ntmps29
  go_wp2_with fail
  have HB0 := Lib.hid (bl_alloc (Below.refl w.heap.size w) (.cells #[.slice A n cap, .int .i64 bd] 25))
  have a0 : (w.alloc (.cells #[.slice A n cap, .int .i64 bd] 25)).cell? ⟨w.heap.size, 0, none⟩ = some (.slice A n cap) := by go_simp
  have a1 : (w.alloc (.cells #[.slice A n cap, .int .i64 bd] 25)).cell? ⟨w.heap.size, 1, none⟩ = some (.int .i64 bd) := by go_simp
  go_region_held3 (fun w' => w'.cell? ⟨w.heap.size, 0, none⟩ = some (.slice A n cap) ∧ w'.cell? ⟨w.heap.size, 1, none⟩ = some (.int .i64 bd)) (go_keep)
    (first
      | (go_at_call 26; refine (implValid_any _ _ _ _ c l _ hn (hr.later HB0.out.drew)).mono ?_; rintro e w1 ⟨rfl, hb⟩; have HB1 := Lib.hid (bl_trans HB0.out.drew hb); replace a0 := kc hb a0; replace a1 := kc hb a1; clear hb; rw [Hv.out])
      | (go_at_call 31; refine (implTotal_yes _ _ _ _ c l _ hn (hr.later HB1.out) Hv.out).mono ?_; rintro e w2 ⟨rfl, hb⟩; have HB2 := Lib.hid (bl_trans HB1.out hb); replace a0 := kc hb a0; replace a1 := kc hb a1; clear hb))
  go_wp2
  go_ret
  exact ⟨ret_bool Hfin.out.symm, HB2.out⟩

set_option maxRecDepth 100000 in
set_option maxHeartbeats 1600000 in
theorem implFalse_no (A : Option Addr) (n cap : Nat) (bd : Int) (c l : Nat → Int) (w : World) (hn : n ≤ 1048576) (hr : Rd w w.heap.size A n c l) (hv : validB n c l bd = false) :
    Calls Try.prog 29 #[.agg #[.slice A n cap, .int .i64 bd]] w fun e w' => e = .returned (.bool (falseV n c l bd)) ∧ Below w.heap.size w w' := by
  have hfin : falseV n c l bd = false := by simp [falseV, hv]
  have Hfin := Lib.hid hfin
  have Hv := Lib.hid hv
  clear hv hfin
  go_enter Try.func29, Try.ntmps29
  go_wp2_with fail
  have HB0 := Lib.hid (bl_alloc (Below.refl w.heap.size w) (.cells #[.slice A n cap, .int .i64 bd] 25))
  have a0 : (w.alloc (.cells #[.slice A n cap, .int .i64 bd] 25)).cell? ⟨w.heap.size, 0, none⟩ = some (.slice A n cap) := by go_simp
  have a1 : (w.alloc (.cells #[.slice A n cap, .int .i64 bd] 25)).cell? ⟨w.heap.size, 1, none⟩ = some (.int .i64 bd) := by go_simp
  generalize w.alloc (.cells #[.slice A n cap, .int .i64 bd] 25) = W0 at HB0 a0 a1 ⊢
  refine region_class (C := Cls W0) (by kernel_rfl) (by kernel_rfl) (Below.refl W0.heap.size W0).drew ?_
  refine BigFrame.wpQuiet_want (by rfl) (fun K hK => quiet_val (v := .agg #[.slice A n cap, .int .i64 bd]) (fun w' hw => ?_) (hK _ ?_))
  · have b0 := kc hw a0
    have b1 := kc hw a1
    clear a0 a1
    go_simp
  clear hK K
  refine BigFrame.wpQuiet_want (by rfl) (fun K hK => quiet_enter (v := .bool false) (f := 26) (args := #[.agg #[.slice A n cap, .int .i64 bd]]) (fun w' hw => ?_) (fun w' hw => ?_) (hK _ ?_))
  · go_simp
  · refine (implValid_any _ _ _ _ c l _ hn (hr.later (bl_trans HB0.out hw))).mono ?_
    rintro e w1 ⟨rfl, hb⟩
    exact ⟨by rw [Hv.out], bl_trans hw hb⟩
  clear hK K
  simp only [Act.put, List.setIfInBounds_toArray, List.set_cons_succ, List.set_cons_zero]
  repeat (go_big_quiet_step (fail))
  refine BigFrame.wpQuiet_want (by rfl) (fun K hK => quiet_val (v := .bool false) (fun w' hw => ?_) (hK _ ?_))
  · clear hK K
    go_simp
  clear hK K
  simp only [Act.put, List.setIfInBounds_toArray, List.set_cons_succ, List.set_cons_zero]
  repeat (go_big_quiet_step (fail))
  refine wpQuiet_nil ?_
  intro w' hw'
  have HBw := Lib.hid (bl_trans HB0.out hw')
  clear hw'
  go_wp2
  go_ret
  exact ⟨ret_bool Hfin.out.symm, HBw.out⟩

theorem implFalse_any (A : Option Addr) (n cap : Nat) (bd : Int) (c l : Nat → Int) (w : World) (hn : n ≤ 1048576) (hr : Rd w w.heap.size A n c l) :
    Calls Try.prog 29 #[.agg #[.slice A n cap, .int .i64 bd]] w fun e w' => e = .returned (.bool (falseV n c l bd)) ∧ Below w.heap.size w w' := by
  cases hv : validB n c l bd with
  | false => exact implFalse_no A n cap bd c l w hn hr hv
  | true => exact implFalse_yes A n cap bd c l w hn hr hv
end Go.Proofs.Ytfgmkaajcbmlmaa
