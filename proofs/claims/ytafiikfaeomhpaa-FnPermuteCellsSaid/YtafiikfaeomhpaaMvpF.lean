/- ModelValid: the program's side, a rule in a model (no claim of its own). Conditions: as each theorem states. -/
import Derived.Test.YtafiikfaeomhpaaDifA
namespace Go.Proofs.Ytafiikfaeomhpaa
open Go.ChangeShapes Go.WideShapes Go.ChangeAt Go.RowKit

/-- The fields of a rule are as its kind demands. -/
def wfB (q : Rul) : Bool := if q.k = 1 then linB q.v q.c q.bd && q.n == 0 else if q.k = 2 then difB q.c q.bd q.n else if q.k = 3 then q.c.n == 0 && (q.bd == 0 && tabB q.v q.n q.r) else if q.k = 4 then q.v.n == 2 && difB q.c q.bd q.n else false
/-- What is left to ask of the cells of a rule. -/
def celB (cells : Nat) (v : Lst) : Bool := decide (1 ≤ v.n) && (prE (fun i => betB 0 (cells - 1) (v.x i)) v.n && prE (newB v.x) v.n)
theorem rule_eq (cells : Nat) (q : Rul) : ruleB cells q = (wfB q && celB cells q.v) := by
  have hv : varB cells q.v = celB cells q.v := by
    unfold varB celB
    rw [prE_and (e := fun i => betB 0 (cells - 1) (q.v.x i) && newB q.v.x i) (f := fun i => betB 0 (cells - 1) (q.v.x i)) (g := newB q.v.x) (fun i => rfl) q.v.n, Bool.and_comm]
  unfold ruleB wfB kindB
  rw [hv]
  generalize celB cells q.v = z
  by_cases k1 : q.k = 1
  · simp only [k1, if_true]
    generalize linB q.v q.c q.bd = a
    generalize (q.n == 0) = b
    cases a <;> cases b <;> cases z <;> simp
  rw [if_neg k1, if_neg k1]
  by_cases k2 : q.k = 2
  · simp only [k2, if_true, difB]
    generalize (q.c.n == 0) = a
    generalize (q.bd == 0) = b
    generalize (q.n == 0) = c
    cases a <;> cases b <;> cases c <;> cases z <;> simp
  rw [if_neg k2, if_neg k2]
  by_cases k3 : q.k = 3
  · simp only [k3, if_true]
    generalize (q.c.n == 0) = a
    generalize (q.bd == 0) = b
    generalize tabB q.v q.n q.r = c
    cases a <;> cases b <;> cases c <;> cases z <;> simp
  rw [if_neg k3, if_neg k3]
  by_cases k4 : q.k = 4
  · simp only [k4, if_true, difB]
    generalize (q.c.n == 0) = a
    generalize (q.bd == 0) = b
    generalize (q.n == 0) = c
    generalize (q.v.n == 2) = d
    cases a <;> cases b <;> cases c <;> cases d <;> cases z <;> simp
  rw [if_neg k4, if_neg k4]
  cases z <;> simp

set_option maxRecDepth 100000 in
set_option maxHeartbeats 1600000 in
/-- A rule that has a kind. -/
theorem validIn_kind (T : TypeId) (X : Value) (fw : Nat) (B : Bool) (cells : Nat) (k bd : Int) (v c : Lst) (n : Nat) (Av Ac Ar : Option Addr) (cv cc cr : Nat) (w : World) (hcells : cells ≤ 5) (hn : v.n ≤ 1048576) (hr : RdI w w.heap.size Av v.n v.x)
    (hT : tyV k (.agg #[.int .i64 k, .slice Av v.n cv, .slice Ac c.n cc, .int .i64 bd, .slice Ar n cr]) = .iface T X)
    (hm : ∀ w : World, (method 308 T X "loop.example/cuttingplanes/impl.wellFormed").run Try.prog w = .ok (fw, X) w)
    (ew : ∀ args w, (callFunc fw args).run Try.prog w = .ok (.enter fw args) w)
    (hW : ∀ W, Below w.heap.size w W → Calls Try.prog fw #[X] W fun e w' => e = .returned (.bool B) ∧ Below W.heap.size W w') :
    Calls Try.prog 88 #[.agg #[.int .i64 k, .slice Av v.n cv, .slice Ac c.n cc, .int .i64 bd, .slice Ar n cr], .int .i64 cells] w fun e w' => e = .returned (.bool (B && celB cells v)) ∧ Below w.heap.size w w' := by
  have HT := Lib.hid hT
  have HW := Lib.hid hW
  have HR := Lib.hid hr
  clear hT hW hr
  go_enter Try.func88, Try.ntmps88
  go_wp2_with fail
  have a1 : (w.alloc (.cells #[.int .i64 k, .slice Av v.n cv, .slice Ac c.n cc, .int .i64 bd, .slice Ar n cr] 90)).cell? ⟨w.heap.size, 1, none⟩ = some (.slice Av v.n cv) := by go_simp
  have HB := Lib.hid (bl_alloc (Below.refl w.heap.size w) (.cells #[.int .i64 k, .slice Av v.n cv, .slice Ac c.n cc, .int .i64 bd, .slice Ar n cr] 90))
  generalize (w.alloc (.cells #[.int .i64 k, .slice Av v.n cv, .slice Ac c.n cc, .int .i64 bd, .slice Ar n cr] 90)) = w1 at *
  refine (typed_any k bd v c n _ _ _ _ _ _ _).mono ?_
  rintro e w2 ⟨rfl, hb⟩
  rw [HT.out]
  have HB2 := Lib.hid (bl_trans HB.out hb)
  replace a1 := kc hb a1
  clear hb HB
  go_wp2_with fail
  refine (HW.out _ HB2.out).mono ?_
  rintro e w3 ⟨rfl, hb⟩
  have HB3 := Lib.hid (bl_trans HB2.out hb)
  replace a1 := kc hb a1
  clear hb HB2 HT HW hm ew
  cases B with
  | false =>
    go_wp2
    go_ret
    exact ⟨ret_bool rfl, HB3.out⟩
  | true =>
  have Hc := Lib.hid (show ∀ z, (true && celB cells v) = z ↔ (decide (1 ≤ v.n) && (prE (fun i => betB 0 (cells - 1) (v.x i)) v.n && prE (newB v.x) v.n)) = z from fun z => by rw [Bool.true_and]; exact Iff.rfl)
  by_cases n0 : (v.n : Int) ≤ 0
  · have He := Lib.hid ((Hc.out false).2 (by simp [show ¬ 1 ≤ v.n by omega]))
    clear Hc
    go_wp2
    go_ret
    exact ⟨ret_bool He.out.symm, HB3.out⟩
  have n1 : (0 : Int) < (v.n : Int) := by omega
  have Hn := Lib.hid (show decide (1 ≤ v.n) = true from by simp; omega)
  clear n0
  obtain ⟨top, ht⟩ : ∃ top : Int, (cells : Int) - 1 = top := ⟨_, rfl⟩
  have hw : IntKind.i64.wrap ((cells : Int) - 1) = top := by rw [← ht]; exact IntWalk.i64_in _ (by omega)
  have hw2 : wrap64 ((cells : Int) - 1) = top := by rw [← ht]; exact IntWalk.wrap64_in _ (by omega)
  rw [ht] at Hc
  go_wp2_with fail
  refine (allBetween_any v _ _ _ _ _ hn (HR.out.later HB3.out)).mono ?_
  rintro e w4 ⟨rfl, hb⟩
  have HB4 := Lib.hid (bl_trans HB3.out hb)
  replace a1 := kc hb a1
  clear hb HB3
  try rw [ht]
  cases e1 : prE (fun i => betB 0 top (v.x i)) v.n with
  | false =>
    have He := Lib.hid ((Hc.out false).2 (by rw [e1]; simp))
    clear Hc e1
    go_wp2
    go_ret
    exact ⟨ret_bool He.out.symm, HB4.out⟩
  | true =>
  have He := Lib.hid ((Hc.out (prE (newB v.x) v.n)).2 (by rw [e1, Hn.out]; simp))
  clear Hc e1 Hn hw hw2 ht
  go_wp2_with fail
  refine (allDifferent_any v _ _ _ hn (HR.out.later HB4.out)).mono ?_
  rintro e w5 ⟨rfl, hb⟩
  have HB5 := Lib.hid (bl_trans HB4.out hb)
  clear hb HB4
  go_wp2
  go_ret
  exact ⟨ret_bool He.out.symm, HB5.out⟩

set_option maxRecDepth 100000 in
set_option maxHeartbeats 1600000 in
/-- A rule that has none. -/
theorem validIn_none (cells : Nat) (k bd : Int) (v c : Lst) (n : Nat) (Av Ac Ar : Option Addr) (cv cc cr : Nat) (w : World)
    (hT : tyV k (.agg #[.int .i64 k, .slice Av v.n cv, .slice Ac c.n cc, .int .i64 bd, .slice Ar n cr]) = Value.nilIface) :
    Calls Try.prog 88 #[.agg #[.int .i64 k, .slice Av v.n cv, .slice Ac c.n cc, .int .i64 bd, .slice Ar n cr], .int .i64 cells] w fun e w' => e = .returned (.bool false) ∧ Below w.heap.size w w' := by
  have HT := Lib.hid hT
  clear hT
  go_enter Try.func88, Try.ntmps88
  go_wp2_with fail
  have HB := Lib.hid (bl_alloc (Below.refl w.heap.size w) (.cells #[.int .i64 k, .slice Av v.n cv, .slice Ac c.n cc, .int .i64 bd, .slice Ar n cr] 90))
  generalize (w.alloc (.cells #[.int .i64 k, .slice Av v.n cv, .slice Ac c.n cc, .int .i64 bd, .slice Ar n cr] 90)) = w1 at *
  refine (typed_any k bd v c n _ _ _ _ _ _ _).mono ?_
  rintro e w2 ⟨rfl, hb⟩
  rw [HT.out]
  have HB2 := Lib.hid (bl_trans HB.out hb)
  clear hb HB
  go_wp2
  go_ret
  exact ⟨rfl, HB2.out⟩

set_option maxRecDepth 100000 in
set_option maxHeartbeats 1600000 in
theorem validIn_any (cells : Nat) (q : Rul) (Av Ac Ar : Option Addr) (cv cc cr : Nat) (w : World) (hcells : cells ≤ 5) (hf : q.fit 1048576) (hv : RdI w w.heap.size Av q.v.n q.v.x) (hc : RdI w w.heap.size Ac q.c.n q.c.x) (hr : RdL w w.heap.size Ar q.n q.r) :
    Calls Try.prog 88 #[.agg #[.int .i64 q.k, .slice Av q.v.n cv, .slice Ac q.c.n cc, .int .i64 q.bd, .slice Ar q.n cr], .int .i64 cells] w fun e w' => e = .returned (.bool (ruleB cells q)) ∧ Below w.heap.size w w' := by
  rw [rule_eq]
  obtain ⟨k, v, c, bd, n, r⟩ := q
  obtain ⟨m1, m2, m3, m4⟩ := hf
  simp only at m1 m2 m3 m4 hv hc hr ⊢
  by_cases k1 : k = 1
  · subst k1
    exact validIn_kind 154 (.agg #[.int .i64 1, .slice Av v.n cv, .slice Ac c.n cc, .int .i64 bd, .slice Ar n cr]) 168 (linB v c bd && n == 0) cells 1 bd v c n _ _ _ _ _ _ w hcells m1 hv rfl (fun _ => by kernel_rfl)
      (enters_of Try.func168 (by kernel_rfl) rfl) (fun W hb => linWell_any 1 bd v c n _ _ _ _ _ _ W m2 (hc.later hb))
  by_cases k2 : k = 2
  · subst k2
    exact validIn_kind 155 (.agg #[.int .i64 2, .slice Av v.n cv, .slice Ac c.n cc, .int .i64 bd, .slice Ar n cr]) 172 (difB c bd n) cells 2 bd v c n _ _ _ _ _ _ w hcells m1 hv rfl (fun _ => by kernel_rfl)
      (enters_of Try.func172 (by kernel_rfl) rfl) (fun W hb => difWell_any 2 bd v c n _ _ _ _ _ _ W)
  by_cases k3 : k = 3
  · subst k3
    exact validIn_kind 156 (.agg #[.int .i64 3, .slice Av v.n cv, .slice Ac c.n cc, .int .i64 bd, .slice Ar n cr]) 174 (c.n == 0 && (bd == 0 && tabB v n r)) cells 3 bd v c n _ _ _ _ _ _ w hcells m1 hv rfl (fun _ => by kernel_rfl)
      (enters_of Try.func174 (by kernel_rfl) rfl) (fun W hb => tabWell_any 3 bd v c n r _ _ _ _ _ _ W m3 m4 (hr.later hb))
  by_cases k4 : k = 4
  · subst k4
    exact validIn_kind 157 (.agg #[.int .i64 4, .slice Av v.n cv, .slice Ac c.n cc, .int .i64 bd, .slice Ar n cr]) 179 (v.n == 2 && difB c bd n) cells 4 bd v c n _ _ _ _ _ _ w hcells m1 hv rfl (fun _ => by kernel_rfl)
      (enters_of Try.func179 (by kernel_rfl) rfl) (fun W hb => lesWell_any 4 bd v c n _ _ _ _ _ _ W)
  have e1 : wfB ⟨k, v, c, bd, n, r⟩ = false := by simp [wfB, k1, k2, k3, k4]
  rw [e1, Bool.false_and]
  exact validIn_none cells k bd v c n _ _ _ _ _ _ w (by simp [tyV, k1, k2, k3, k4])

set_option maxHeartbeats 800000 in
/-- The test of ModelValid's closure: its box holds the number of cells. -/
theorem invalidR_any (cells : Nat) (q : Rul) (Av Ac Ar : Option Addr) (cv cc cr : Nat) (P0 : Nat) (w : World) (hcells : cells ≤ 5) (hP : w.cell? ⟨P0, 0, none⟩ = some (.int .i64 cells)) (hf : q.fit 1048576) (hv : RdI w w.heap.size Av q.v.n q.v.x) (hc : RdI w w.heap.size Ac q.c.n q.c.x) (hr : RdL w w.heap.size Ar q.n q.r) :
    Calls Try.prog 87 #[.agg #[.int .i64 q.k, .slice Av q.v.n cv, .slice Ac q.c.n cc, .int .i64 q.bd, .slice Ar q.n cr], .pointer (some ⟨P0, 0, none⟩)] w fun e w' => e = .returned (.bool (!ruleB cells q)) ∧ Below w.heap.size w w' := by
  have HV := Lib.hid hv
  have HC := Lib.hid hc
  have HR := Lib.hid hr
  have HF := Lib.hid hf
  clear hv hc hr hf
  have hP1 := kc (bl_alloc (Below.refl w.heap.size w) (.cells #[.int .i64 q.k, .slice Av q.v.n cv, .slice Ac q.c.n cc, .int .i64 q.bd, .slice Ar q.n cr] 90)) hP
  go_enter Try.func87, Try.ntmps87
  go_wp2_with fail
  have HB := Lib.hid (bl_alloc (Below.refl w.heap.size w) (.cells #[.int .i64 q.k, .slice Av q.v.n cv, .slice Ac q.c.n cc, .int .i64 q.bd, .slice Ar q.n cr] 90))
  clear hP
  generalize (w.alloc (.cells #[.int .i64 q.k, .slice Av q.v.n cv, .slice Ac q.c.n cc, .int .i64 q.bd, .slice Ar q.n cr] 90)) = w1 at *
  refine (validIn_any cells q _ _ _ _ _ _ _ hcells HF.out (HV.out.later HB.out) (HC.out.later HB.out) (HR.out.later HB.out)).mono ?_
  rintro e w2 ⟨rfl, hb⟩
  have HB2 := Lib.hid (bl_trans HB.out hb)
  clear hb HB
  cases hz : ruleB cells q with
  | false =>
    have Hz := Lib.hid (show (!ruleB cells q) = true from by rw [hz]; rfl)
    clear hz
    go_wp2
    go_ret
    exact ⟨ret_bool Hz.out.symm, HB2.out⟩
  | true =>
    have Hz := Lib.hid (show (!ruleB cells q) = false from by rw [hz]; rfl)
    clear hz
    go_wp2
    go_ret
    exact ⟨ret_bool Hz.out.symm, HB2.out⟩
end Go.Proofs.Ytafiikfaeomhpaa
