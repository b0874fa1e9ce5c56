/- The walk of the exact law of ProblemValid (no claim of its own). Conditions: as each theorem states. -/
import Derived.Test.YtgfofdcggbkeeaaProB
namespace Go.Proofs.Ytgfofdcggbkeeaa
open Go.ChangeShapes Go.WideShapes Go.ChangeAt Go.RowKit

set_option maxRecDepth 100000 in
set_option maxHeartbeats 1600000 in
theorem lawProblemValid_walk (A : Option Addr) (n cap : Nat) (p : Nat → Con) (w : World) (hm : n ≤ maxLen) (hm' : ∀ i, i < n → (p i).n ≤ maxLen) (hr : RdP w w.heap.size A n p) :
    Calls Try.prog 4 #[.slice A n cap] w fun e w' => e = .returned (.bool true) ∧ Below w.heap.size w w' := by
  by_cases h : (n : Int) + tot p n ≤ 1048576
  · have hn : n ≤ 1048576 := by omega
    have hn' : ∀ i, i < n → (p i).n ≤ 1048576 := fun i hi => by have := tot_at p hi; omega
    have hge : ¬ ((1048576 : Int) - n - tot p n < 0) := by omega
    have HN := Lib.hid hn'
    clear hn' hm'
    go_enter Try.func4, Try.ntmps4
    go_wp2_with fail
    refine (szConstraintS_ok _ _ _ p _ _ (by omega) (by omega) h hr).mono ?_
    rintro e w0 ⟨rfl, hb⟩
    have HB0 := Lib.hid hb
    clear hb
    go_wp2_with fail
    refine (toConstraintS_any _ _ _ p _ hn HN.out (hr.later HB0.out)).mono ?_
    rintro e w1 ⟨G1, rfl, hG1, ho1, hb⟩
    have HB1 := Lib.hid (bl_trans HB0.out hb)
    have O1 := Lib.hid ho1
    clear hb hG1 ho1 HB0
    go_wp2_with fail
    refine (specProblem_any _ _ _ p _ hn HN.out O1.out.rdAt).mono ?_
    rintro e w1' ⟨rfl, hb⟩
    have HB1' := Lib.hid (bl_trans HB1.out hb)
    clear hb HB1 O1
    go_wp2_with fail
    refine (toConstraintS_any _ _ _ p _ hn HN.out (hr.later HB1'.out)).mono ?_
    rintro e w2 ⟨G2, rfl, hG2, ho2, hb⟩
    have HB2 := Lib.hid (bl_trans HB1'.out hb)
    have O2 := Lib.hid ho2
    clear hb hG2 ho2 HB1'
    go_wp2_with fail
    refine (implProblem_any _ _ _ p _ hn HN.out O2.out.rdAt).mono ?_
    rintro e w2' ⟨rfl, hb⟩
    have HB2' := Lib.hid (bl_trans HB2.out hb)
    have O2' := Lib.hid (O2.out.below hb)
    clear hb HB2 O2
    go_wp2_with fail
    refine (toConstraintS_any _ _ _ p _ hn HN.out (hr.later HB2'.out)).mono ?_
    rintro e w3 ⟨G3, rfl, hG3, ho3, hb⟩
    have HB3 := Lib.hid (bl_trans HB2'.out hb)
    have O3 := Lib.hid ho3
    have O4 := Lib.hid (O2'.out.below hb)
    clear hb hG3 ho3 HB2' O2'
    go_wp2_with fail
    refine (eqConstraintS_refl _ _ _ _ _ p _ hn HN.out O4.out.rdAt O3.out.rdAt).mono ?_
    rintro e w4 ⟨rfl, hb⟩
    have HB4 := Lib.hid (bl_trans HB3.out hb)
    clear hb HB3 O3 O4
    go_wp2
    go_ret
    exact ⟨rfl, HB4.out⟩
  · have HM := Lib.hid hm'
    clear hm'
    go_enter Try.func4, Try.ntmps4
    go_wp2_with fail
    refine (szConstraintS_no _ _ _ p _ _ (by omega) (by omega) (by omega) hm HM.out hr).mono ?_
    rintro e w0 ⟨rfl, hb⟩
    have HB0 := Lib.hid hb
    clear hb
    go_wp2
    go_ret
    exact ⟨rfl, HB0.out⟩
end Go.Proofs.Ytgfofdcggbkeeaa
