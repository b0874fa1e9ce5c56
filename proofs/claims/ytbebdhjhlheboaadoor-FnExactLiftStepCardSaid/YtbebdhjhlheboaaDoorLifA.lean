/- Clauses, and steps of reverse unit propagation, as the program tests them (no claim of its own). Conditions: as each theorem states. -/
import Derived.Test.YtbebdhjhlheboaaDoorDoorA
import Derived.Test.YtbebdhjhlheboaaDoorProB
import Derived.Test.YtbebdhjhlheboaaDoorValidB
namespace Go.Proofs.YtbebdhjhlheboaaDoor
open Go.ChangeShapes Go.WideShapes Go.ChangeAt Go.RowKit

/-- A constraint is a clause. -/
def wgt (c : Nat → Int) (k : Nat) : Bool := !(c k == 1)
def clauB (n : Nat) (c l : Nat → Int) (bd : Int) : Bool := validB n c l bd && (bd == 1 && !anyQ (wgt c) n)

set_option maxRecDepth 100000 in
set_option maxHeartbeats 400000 in
theorem weighted_any (a b : Int) (w : World) :
    Calls Tryd.prog 56 #[.agg #[.int .i64 a, .int .i64 b]] w fun e w' => e = .returned (.bool (!(a == 1))) ∧ Below w.heap.size w w' := by
  go_enter Tryd.func56, Tryd.ntmps56
  go_wp2
  go_ret
  exact ⟨rfl, by repeat (first | exact Below.refl _ _ | refine bl_alloc ?_ _ | refine Below.setCell ?_ (by simp) _)⟩

set_option maxRecDepth 100000 in
set_option maxHeartbeats 800000 in
theorem indexW_any (A : Option Addr) (n cap : Nat) (c l : Nat → Int) (w : World) (hn : n ≤ 1048576) (hr : Rd w w.heap.size A n c l) :
    Calls Tryd.prog 73 #[.slice A n cap, .func (.func 56) #[] #[]] w fun e w' => ∃ m : Int, e = .returned (.int .i64 m) ∧ decide (0 ≤ m) = anyQ (wgt c) n ∧ Below w.heap.size w w' := by
  go_enter Tryd.func73, Tryd.ntmps73
  go_wp2
  go_loopw [8] (fun i wr => ∃ k : Nat, k ≤ n ∧ i = .int .i64 k ∧ anyQ (wgt c) k = false ∧ Below w.heap.size w wr) (fun i _ => n - (intOf i).toNat)
  case atStart => exact ⟨0, Nat.zero_le _, rfl, rfl, Below.refl _ _⟩
  case round =>
    obtain ⟨k, hk, rfl, hp, hb⟩ := hrel
    have Hp := Lib.hid hp
    clear hp
    by_cases hlt : k < n
    · obtain ⟨b, off, rfl, hbl, hc⟩ := (hr.below hb) (by omega)
      obtain ⟨hc1, hc2⟩ := hc k hlt
      have Hcall := Lib.hid (weighted_any (c k) (l k) wr)
      clear hc hr
      cases hq : wgt c k with
      | true =>
        have Hfin := Lib.hid (show decide (0 ≤ (k : Int)) = anyQ (wgt c) n from by rw [anyQ_of hlt hq]; simp)
        rw [show (!(c k == 1)) = true from hq] at Hcall
        clear hq
        go_wp2_with fail
        refine Hcall.out.mono ?_
        rintro e w1 ⟨rfl, hb1⟩
        go_wp2
        go_ret
        exact ⟨_, rfl, Hfin.out, hb.trans (hb1.mono hb.size)⟩
      | false =>
        have Hno := Lib.hid (anyQ_step Hp.out hq)
        rw [show (!(c k == 1)) = false from hq] at Hcall
        clear hq
        go_wp2_with fail
        refine Hcall.out.mono ?_
        rintro e w1 ⟨rfl, hb1⟩
        go_wp2
        go_roundw
        case rel => exact ⟨k + 1, by omega, by go_num, Hno.out, hb.trans (hb1.mono hb.size)⟩
        case measure => simp [intOf]; omega
    · have e : k = n := by omega
      subst e
      go_wp2
      go_ret
      exact ⟨-1, rfl, by rw [Hp.out]; rfl, hb⟩

set_option maxRecDepth 100000 in
set_option maxHeartbeats 800000 in
theorem containsW_any (A : Option Addr) (n cap : Nat) (c l : Nat → Int) (w : World) (hn : n ≤ 1048576) (hr : Rd w w.heap.size A n c l) :
    Calls Tryd.prog 57 #[.slice A n cap, .func (.func 56) #[] #[]] w fun e w' => e = .returned (.bool (anyQ (wgt c) n)) ∧ Below w.heap.size w w' := by
  have Hc := Lib.hid (indexW_any A n cap c l w hn hr)
  go_enter Tryd.func57, Tryd.ntmps57
  go_wp2_with fail
  refine Hc.out.mono ?_
  rintro e w1 ⟨m, rfl, hm, hb⟩
  have Hm := Lib.hid hm
  clear hm
  go_wp2
  go_ret
  exact ⟨by rw [← Hm.out]; rfl, hb⟩

set_option maxRecDepth 100000 in
set_option maxHeartbeats 800000 in
theorem isClause_any (A : Option Addr) (n cap : Nat) (bd : Int) (c l : Nat → Int) (w : World) (hn : n ≤ 1048576) (hr : Rd w w.heap.size A n c l) :
    Calls Tryd.prog 25 #[.agg #[.slice A n cap, .int .i64 bd]] w fun e w' => e = .returned (.bool (clauB n c l bd)) ∧ Below w.heap.size w w' := by
  have HR := Lib.hid hr
  have BA := Lib.hid (bl_alloc (Below.refl w.heap.size w) (.cells #[.slice A n cap, .int .i64 bd] 31))
  clear hr
  go_enter Tryd.func25, Tryd.ntmps25
  go_wp2_with fail
  refine (implValid_any A n cap bd c l _ hn (HR.out.later BA.out)).mono ?_
  rintro e w1 ⟨rfl, hb⟩
  have r0 : w1.cell? ⟨w.heap.size, 0, none⟩ = some (.slice A n cap) := kc hb (by go_simp)
  have r1 : w1.cell? ⟨w.heap.size, 1, none⟩ = some (.int .i64 bd) := kc hb (by go_simp)
  have HB1 := Lib.hid (bl_trans BA.out hb)
  have HR1 := Lib.hid ((HR.out.later BA.out).later hb)
  clear hb HR BA
  cases hv : validB n c l bd with
  | false =>
    have HF := Lib.hid (show clauB n c l bd = false by unfold clauB; rw [hv]; rfl)
    clear hv
    go_wp2
    go_ret
    exact ⟨by rw [HF.out]; rfl, HB1.out⟩
  | true =>
    by_cases h1 : bd = 1
    · subst h1
      have HF := Lib.hid (show clauB n c l 1 = !anyQ (wgt c) n by unfold clauB; rw [hv]; rfl)
      clear hv
      go_wp2_with fail
      refine (containsW_any A n cap c l _ hn HR1.out).mono ?_
      rintro e w2 ⟨rfl, hb⟩
      have HB2 := Lib.hid (bl_trans HB1.out hb)
      clear hb r0 r1
      go_wp2
      go_ret
      exact ⟨by rw [HF.out]; rfl, HB2.out⟩
    · have hd : (bd == 1) = false := beq_eq_false_iff_ne.2 h1
      have HF := Lib.hid (show clauB n c l bd = false by unfold clauB; rw [hv, hd]; rfl)
      clear hv
      go_wp2
      go_ret
      exact ⟨by rw [HF.out]; rfl, HB1.out⟩

set_option maxRecDepth 100000 in
set_option maxHeartbeats 1600000 in
/-- A step of reverse unit propagation has its form exactly when its numbers are 0. -/
theorem wellRup_any (A : Option Addr) (n cap : Nat) (a b bd : Int) (w : World) (hT : LyAt w) :
    Calls Tryd.prog 24 #[.agg #[.int .i64 7, .int .i64 a, .int .i64 b, .slice A n cap, .int .i64 bd]] w fun e w' => e = .returned (.bool (a == 0 && b == 0)) ∧ Below w.heap.size w w' := by
  obtain ⟨⟨s, h0⟩, h1, h2, h3⟩ := hT 7 _ _ _ rfl
  have z0 : ∀ o, (w.alloc o).cell? ⟨0, 28, none⟩ = some (.string s) := fun o => kc (bl_alloc (Below.refl w.heap.size w) o) h0
  have z1 : ∀ o, (w.alloc o).cell? ⟨0, 29, none⟩ = some (.int .i64 0) := fun o => kc (bl_alloc (Below.refl w.heap.size w) o) h1
  have z2 : ∀ o, (w.alloc o).cell? ⟨0, 30, none⟩ = some (.int .i64 0) := fun o => kc (bl_alloc (Below.refl w.heap.size w) o) h2
  have z3 : ∀ o, (w.alloc o).cell? ⟨0, 31, none⟩ = some (.bool true) := fun o => kc (bl_alloc (Below.refl w.heap.size w) o) h3
  clear h0 h1 h2 h3 hT
  by_cases ha : a = 0
  · subst ha
    by_cases hb : b = 0
    · subst hb
      go_enter Tryd.func24, Tryd.ntmps24
      go_wp2
      go_ret
      exact ⟨rfl, by repeat (first | exact Below.refl _ _ | refine bl_alloc ?_ _ | refine Below.setCell ?_ (by simp) _)⟩
    · have hd : (b == 0) = false := beq_eq_false_iff_ne.2 hb
      rw [hd]
      go_enter Tryd.func24, Tryd.ntmps24
      go_wp2
      go_ret
      exact ⟨rfl, by repeat (first | exact Below.refl _ _ | refine bl_alloc ?_ _ | refine Below.setCell ?_ (by simp) _)⟩
  · have hd : (a == 0) = false := beq_eq_false_iff_ne.2 ha
    rw [hd]
    go_enter Tryd.func24, Tryd.ntmps24
    go_wp2
    go_ret
    exact ⟨rfl, by repeat (first | exact Below.refl _ _ | refine bl_alloc ?_ _ | refine Below.setCell ?_ (by simp) _)⟩
end Go.Proofs.YtbebdhjhlheboaaDoor
