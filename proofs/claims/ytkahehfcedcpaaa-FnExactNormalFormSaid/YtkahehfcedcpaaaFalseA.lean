/- Contracts of the model's and the program's ConstraintFalse (no claim of its own). Conditions: as each theorem states. -/
import Derived.Test.YtkahehfcedcpaaaSumB
import Derived.Deep.RegionHeld3
namespace Go.Proofs.Ytkahehfcedcpaaa
open Go.ChangeShapes Go.WideShapes Go.ChangeAt Go.RowKit

/-- The worlds in which nothing that lay in W has turned. -/
def Cls (W w' : World) : Prop := Below W.heap.size W w'

section
variable {P : Program} {C : World → Prop} {a : Act} {o : Oper} {K : Act → Prop}
/-- An operation that yields one value in every world of the class. -/
theorem quiet_val {v : Value} (h : ∀ w, C w → (execOp a.eval o).run P w = .ok (.value v) w) (hk : K (a.put o.dst v)) : o.quiet P a C K :=
  ⟨v, fun w hw => by unfold Oper.quietAt; rw [h w hw]; exact ⟨rfl, rfl⟩, hk⟩
/-- A call that hands back one value in every world of the class, and leaves a world of the class. -/
theorem quiet_enter {v : Value} {f : FuncId} {args : Array Value} (h : ∀ w, C w → (execOp a.eval o).run P w = .ok (.enter f args) w) (hc : ∀ w, C w → Calls P f args w fun e w'' => e = .returned v ∧ C w'')
    (hk : K (a.put o.dst v)) : o.quiet P a C K :=
  ⟨v, fun w hw => by unfold Oper.quietAt; rw [h w hw]; exact ⟨rfl, hc w hw⟩, hk⟩
/-- A region that draws its order, all of whose operations are so. -/
theorem region_class {id : Nat} {Q : Exit → Act → World → Prop} {w : World} {l : List Oper} (hm : P.follows .mixedOrders = true) (hB : Region.lexB .any l.toArray = true) (hC : C w.drew)
    (h : wpQuiet P l.toArray C (fun a' => ∀ w', C w' → Q .normal a' w') l a) : (Code.region id l.toArray true).wp P Q a w :=
  wp_region_quiet (C := C) hm hB hC (by simpa using h)
end

/-- What ConstraintFalse answers. -/
def falseV (n : Nat) (c l : Nat → Int) (bd : Int) : Bool := validB n c l bd && decide (totW c l n < bd)

set_option maxRecDepth 100000 in
set_option maxHeartbeats 1600000 in
theorem specFalse_yes (A : Option Addr) (n cap : Nat) (bd : Int) (c l : Nat → Int) (w : World) (hn : n ≤ 1048576) (hr : Rd w w.heap.size A n c l) (hv : validB n c l bd = true) :
    Calls Try.prog 33 #[.agg #[.slice A n cap, .int .i64 bd]] w fun e w' => e = .returned (.bool (falseV n c l bd)) ∧ Below w.heap.size w w' := by
  have hfin : falseV n c l bd = decide (totW c l n < bd) := by simp [falseV, hv]
  have Hfin := Lib.hid hfin
  have Hv := Lib.hid hv
  clear hv hfin
  go_enter Try.func33, Try.ntmps33
  go_wp2_with fail
  have HB0 := Lib.hid (bl_alloc (Below.refl w.heap.size w) (.cells #[.slice A n cap, .int .i64 bd] 29))
  have a0 : (w.alloc (.cells #[.slice A n cap, .int .i64 bd] 29)).cell? ⟨w.heap.size, 0, none⟩ = some (.slice A n cap) := by go_simp
  have a1 : (w.alloc (.cells #[.slice A n cap, .int .i64 bd] 29)).cell? ⟨w.heap.size, 1, none⟩ = some (.int .i64 bd) := by go_simp
  go_region_held3 (fun w' => w'.cell? ⟨w.heap.size, 0, none⟩ = some (.slice A n cap) ∧ w'.cell? ⟨w.heap.size, 1, none⟩ = some (.int .i64 bd)) (go_keep)
    (first
      | (go_at_call 11; refine (specValid_any _ _ _ _ c l _ hn (hr.later HB0.out.drew)).mono ?_; rintro e w1 ⟨rfl, hb⟩; have HB1 := Lib.hid (bl_trans HB0.out.drew hb); replace a0 := kc hb a0; replace a1 := kc hb a1; clear hb; rw [Hv.out])
      | (go_at_call 52; refine (l1Total_any _ _ _ _ c l _ hn (hr.later HB1.out)).mono ?_; rintro e w2 ⟨rfl, hb⟩; have HB2 := Lib.hid (bl_trans HB1.out hb); replace a0 := kc hb a0; replace a1 := kc hb a1; clear hb))
  go_wp2
  go_ret
  exact ⟨ret_bool Hfin.out.symm, HB2.out⟩

set_option maxRecDepth 100000 in
set_option maxHeartbeats 1600000 in
theorem specFalse_no (A : Option Addr) (n cap : Nat) (bd : Int) (c l : Nat → Int) (w : World) (hn : n ≤ 1048576) (hr : Rd w w.heap.size A n c l) (hv : validB n c l bd = false) :
    Calls Try.prog 33 #[.agg #[.slice A n cap, .int .i64 bd]] w fun e w' => e = .returned (.bool (falseV n c l bd)) ∧ Below w.heap.size w w' := by
  have hfin : falseV n c l bd = false := by simp [falseV, hv]
  have Hfin := Lib.hid hfin
  have Hv := Lib.hid hv
  clear hv hfin
  go_enter Try.func33, Try.ntmps33
  go_wp2_with fail
  have HB0 := Lib.hid (bl_alloc (Below.refl w.heap.size w) (.cells #[.slice A n cap, .int .i64 bd] 29))
  have a0 : (w.alloc (.cells #[.slice A n cap, .int .i64 bd] 29)).cell? ⟨w.heap.size, 0, none⟩ = some (.slice A n cap) := by go_simp
  have a1 : (w.alloc (.cells #[.slice A n cap, .int .i64 bd] 29)).cell? ⟨w.heap.size, 1, none⟩ = some (.int .i64 bd) := by go_simp
  generalize w.alloc (.cells #[.slice A n cap, .int .i64 bd] 29) = W0 at HB0 a0 a1 ⊢
  refine region_class (C := Cls W0) (by kernel_rfl) (by kernel_rfl) (Below.refl W0.heap.size W0).drew ?_
  refine BigFrame.wpQuiet_want (by rfl) (fun K hK => quiet_val (v := .agg #[.slice A n cap, .int .i64 bd]) (fun w' hw => ?_) (hK _ ?_))
  · have b0 := kc hw a0
    have b1 := kc hw a1
    clear a0 a1
    go_simp
  clear hK K
  refine BigFrame.wpQuiet_want (by rfl) (fun K hK => quiet_enter (v := .bool false) (f := 11) (args := #[.agg #[.slice A n cap, .int .i64 bd]]) (fun w' hw => ?_) (fun w' hw => ?_) (hK _ ?_))
  · go_simp
  · refine (specValid_any _ _ _ _ c l _ hn (hr.later (bl_trans HB0.out hw))).mono ?_
    rintro e w1 ⟨rfl, hb⟩
    exact ⟨by rw [Hv.out], bl_trans hw hb⟩
  clear hK K
  simp only [Act.put, List.setIfInBounds_toArray, List.set_cons_succ, List.set_cons_zero]
  repeat (go_big_quiet_step (fail))
  refine BigFrame.wpQuiet_want (by rfl) (fun K hK => quiet_val (v := .bool false) (fun w' hw => ?_) (hK _ ?_))
  · clear hK K
    go_simp
  clear hK K
  simp only [Act.put, List.setIfInBounds_toArray, List.set_cons_succ, List.set_cons_zero]
  repeat (go_big_quiet_step (fail))
  refine wpQuiet_nil ?_
  intro w' hw'
  have HBw := Lib.hid (bl_trans HB0.out hw')
  clear hw'
  go_wp2
  go_ret
  exact ⟨ret_bool Hfin.out.symm, HBw.out⟩

theorem specFalse_any (A : Option Addr) (n cap : Nat) (bd : Int) (c l : Nat → Int) (w : World) (hn : n ≤ 1048576) (hr : Rd w w.heap.size A n c l) :
    Calls Try.prog 33 #[.agg #[.slice A n cap, .int .i64 bd]] w fun e w' => e = .returned (.bool (falseV n c l bd)) ∧ Below w.heap.size w w' := by
  cases hv : validB n c l bd with
  | false => exact specFalse_no A n cap bd c l w hn hr hv
  | true => exact specFalse_yes A n cap bd c l w hn hr hv

/-- TotalCoef of a valid constraint. -/
theorem implTotal_yes (A : Option Addr) (n cap : Nat) (bd : Int) (c l : Nat → Int) (w : World) (hn : n ≤ 1048576) (hr : Rd w w.heap.size A n c l) (hv : validB n c l bd = true) :
    Calls Try.prog 32 #[.agg #[.slice A n cap, .int .i64 bd]] w fun e w' => e = .returned (.int .i64 (totW c l n)) ∧ Below w.heap.size w w' :=
  (implTotal_any A n cap bd c l w hn hr).mono fun _ _ ⟨he, hb⟩ => ⟨by rw [he, hv]; rfl, hb⟩

set_option maxRecDepth 100000 in
set_option maxHeartbeats 1600000 in
theorem implFalse_yes (A : Option Addr) (n cap : Nat) (bd : Int) (c l : Nat → Int) (w : World) (hn : n ≤ 1048576) (hr : Rd w w.heap.size A n c l) (hv : validB n c l bd = true) :
    Calls Try.prog 34 #[.agg #[.slice A n cap, .int .i64 bd]] w fun e w' => e = .returned (.bool (falseV n c l bd)) ∧ Below w.heap.size w w' := by
  have hfin : falseV n c l bd = decide (totW c l n < bd) := by simp [falseV, hv]
  have Hfin := Lib.hid hfin
  have Hv := Lib.hid hv
  clear hv hfin
  go_enter Try.func34, Try.ntmps34
  go_wp2_with fail
  have HB0 := Lib.hid (bl_alloc (Below.refl w.heap.size w) (.cells #[.slice A n cap, .int .i64 bd] 29))
  have a0 : (w.alloc (.cells #[.slice A n cap, .int .i64 bd] 29)).cell? ⟨w.heap.size, 0, none⟩ = some (.slice A n cap) := by go_simp
  have a1 : (w.alloc (.cells #[.slice A n cap, .int .i64 bd] 29)).cell? ⟨w.heap.size, 1, none⟩ = some (.int .i64 bd) := by go_simp
  go_region_held3 (fun w' => w'.cell? ⟨w.heap.size, 0, none⟩ = some (.slice A n cap) ∧ w'.cell? ⟨w.heap.size, 1, none⟩ = some (.int .i64 bd)) (go_keep)
    (first
      | (go_at_call 13; refine (implValid_any _ _ _ _ c l _ hn (hr.later HB0.out.drew)).mono ?_; rintro e w1 ⟨rfl, hb⟩; have HB1 := Lib.hid (bl_trans HB0.out.drew hb); replace a0 := kc hb a0; replace a1 := kc hb a1; clear hb; rw [Hv.out])
      | (go_at_call 32; refine (implTotal_yes _ _ _ _ c l _ hn (hr.later HB1.out) Hv.out).mono ?_; rintro e w2 ⟨rfl, hb⟩; have HB2 := Lib.hid (bl_trans HB1.out hb); replace a0 := kc hb a0; replace a1 := kc hb a1; clear hb))
  go_wp2
  go_ret
  exact ⟨ret_bool Hfin.out.symm, HB2.out⟩

set_option maxRecDepth 100000 in
set_option maxHeartbeats 1600000 in
theorem implFalse_no (A : Option Addr) (n cap : Nat) (bd : Int) (c l : Nat → Int) (w : World) (hn : n ≤ 1048576) (hr : Rd w w.heap.size A n c l) (hv : validB n c l bd = false) :
    Calls Try.prog 34 #[.agg #[.slice A n cap, .int .i64 bd]] w fun e w' => e = .returned (.bool (falseV n c l bd)) ∧ Below w.heap.size w w' := by
  have hfin : falseV n c l bd = false := by simp [falseV, hv]
  have Hfin := Lib.hid hfin
  have Hv := Lib.hid hv
  clear hv hfin
  go_enter Try.func34, Try.ntmps34
  go_wp2_with fail
  have HB0 := Lib.hid (bl_alloc (Below.refl w.heap.size w) (.cells #[.slice A n cap, .int .i64 bd] 29))
  have a0 : (w.alloc (.cells #[.slice A n cap, .int .i64 bd] 29)).cell? ⟨w.heap.size, 0, none⟩ = some (.slice A n cap) := by go_simp
  have a1 : (w.alloc (.cells #[.slice A n cap, .int .i64 bd] 29)).cell? ⟨w.heap.size, 1, none⟩ = some (.int .i64 bd) := by go_simp
  generalize w.alloc (.cells #[.slice A n cap, .int .i64 bd] 29) = W0 at HB0 a0 a1 ⊢
  refine region_class (C := Cls W0) (by kernel_rfl) (by kernel_rfl) (Below.refl W0.heap.size W0).drew ?_
  refine BigFrame.wpQuiet_want (by rfl) (fun K hK => quiet_val (v := .agg #[.slice A n cap, .int .i64 bd]) (fun w' hw => ?_) (hK _ ?_))
  · have b0 := kc hw a0
    have b1 := kc hw a1
    clear a0 a1
    go_simp
  clear hK K
  refine BigFrame.wpQuiet_want (by rfl) (fun K hK => quiet_enter (v := .bool false) (f := 13) (args := #[.agg #[.slice A n cap, .int .i64 bd]]) (fun w' hw => ?_) (fun w' hw => ?_) (hK _ ?_))
  · go_simp
  · refine (implValid_any _ _ _ _ c l _ hn (hr.later (bl_trans HB0.out hw))).mono ?_
    rintro e w1 ⟨rfl, hb⟩
    exact ⟨by rw [Hv.out], bl_trans hw hb⟩
  clear hK K
  simp only [Act.put, List.setIfInBounds_toArray, List.set_cons_succ, List.set_cons_zero]
  repeat (go_big_quiet_step (fail))
  refine BigFrame.wpQuiet_want (by rfl) (fun K hK => quiet_val (v := .bool false) (fun w' hw => ?_) (hK _ ?_))
  · clear hK K
    go_simp
  clear hK K
  simp only [Act.put, List.setIfInBounds_toArray, List.set_cons_succ, List.set_cons_zero]
  repeat (go_big_quiet_step (fail))
  refine wpQuiet_nil ?_
  intro w' hw'
  have HBw := Lib.hid (bl_trans HB0.out hw')
  clear hw'
  go_wp2
  go_ret
  exact ⟨ret_bool Hfin.out.symm, HBw.out⟩

theorem implFalse_any (A : Option Addr) (n cap : Nat) (bd : Int) (c l : Nat → Int) (w : World) (hn : n ≤ 1048576) (hr : Rd w w.heap.size A n c l) :
    Calls Try.prog 34 #[.agg #[.slice A n cap, .int .i64 bd]] w fun e w' => e = .returned (.bool (falseV n c l bd)) ∧ Below w.heap.size w w' := by
  cases hv : validB n c l bd with
  | false => exact implFalse_no A n cap bd c l w hn hr hv
  | true => exact implFalse_yes A n cap bd c l w hn hr hv
end Go.Proofs.Ytkahehfcedcpaaa
