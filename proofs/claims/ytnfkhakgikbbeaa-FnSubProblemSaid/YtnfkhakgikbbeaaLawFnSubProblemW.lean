/- The walk of the law FnSubProblem (no claim of its own). Conditions: as each theorem states. -/
import Derived.Test.YtnfkhakgikbbeaaSbdZ
import Derived.Test.YtnfkhakgikbbeaaSubB
import Derived.Test.YtnfkhakgikbbeaaFsbZ
namespace Go.Proofs.Ytnfkhakgikbbeaa
open Go.ChangeShapes Go.WideShapes Go.ChangeAt Go.RowKit

set_option linter.unusedVariables false in
set_option maxRecDepth 100000 in
set_option maxHeartbeats 6400000 in
theorem lawFnSubProblem_ok (A0 : Option Addr) (n0 cap0 : Nat) (y0 : Nat → Int) (w : World) (h0 : n0 ≤ 1048576) (hc0 : n0 ≤ cap0) (hr0 : RdY w w.heap.size A0 n0 y0) :
    Calls Try.prog 3 #[.slice A0 n0 cap0] w fun e w' => e = .returned (.bool true) ∧ Below w.heap.size w w' := by
  have hm0 : n0 ≤ maxLen := by unfold maxLen; omega
  have hi0 : ¬ (1048576 : Int) < (n0 : Int) := by omega
  go_enter Try.func3, Try.ntmps3
  go_wp2_with fail
  refine (drawSub_any _ _ _ y0 _ hm0 hc0 hr0).mono ?_
  rintro e w1 ⟨Al, kl, capl, p, Ac, m, capc, c, rfl, hkl, hN, hm, hrp, hrc, hb⟩
  have HB1 := Lib.hid hb
  have HP0 := Lib.hid hrp
  have HC0 := Lib.hid hrc
  clear hb 
  have HN := Lib.hid (fun i hi => Nat.le_trans (hN i hi) (show 15 ≤ 1048576 by omega))
  have hklB : kl ≤ 1048576 := by omega
  have hmB : m ≤ 1048576 := by omega
  clear hrp hrc hN
  go_wp2_with fail
  refine (implSub_any _ _ _ _ _ _ p c _ hklB HN.out hmB HP0.out HC0.out).mono ?_
  rintro e w3 ⟨Ax, capx, rfl, hfx, hb⟩
  have HB2 := Lib.hid (bl_trans HB1.out hb)
  have HP1 := Lib.hid (HP0.out.later hb)
  have HC1 := Lib.hid (HC0.out.later hb)
  have FX0 := Lib.hid hfx
  clear hb HP0 HC0 HB1
  clear hfx
  go_wp2_with fail
  refine (specSub_any _ _ _ _ _ _ p c _ hklB HN.out hmB HP1.out HC1.out).mono ?_
  rintro e w4 ⟨Aw, capw, rfl, hfw, hb⟩
  have HB3 := Lib.hid (bl_trans HB2.out hb)
  have HP2 := Lib.hid (HP1.out.later hb)
  have HC2 := Lib.hid (HC1.out.later hb)
  have FX1 := Lib.hid (FX0.out.below hb)
  have FW0 := Lib.hid hfw
  clear hb HP1 HC1 FX0 HB2
  clear hfw
  have hNu : subN kl p m c ≤ 1048576 := Nat.le_trans (subN_le _ _ _ _) (by omega)
  have HNu := Lib.hid (sub_all kl p m c)
  cases hu : subOk kl p m c with
  | false =>
    clear hu
    go_wp2_with fail
    refine (cpProblem_same _ _ _ _ _ (subK p c) _ hNu HNu.out FX1.out.rdAt FW0.out.rdAt).mono ?_
    rintro e w5 ⟨rfl, hb⟩
    have HB4 := Lib.hid (bl_trans HB3.out hb)
    have HP3 := Lib.hid (HP2.out.later hb)
    have HC3 := Lib.hid (HC2.out.later hb)
    have FX2 := Lib.hid (FX1.out.below hb)
    have FW1 := Lib.hid (FW0.out.below hb)
    clear hb HP2 HC2 FX1 FW0 HB3
    go_wp2_with fail
    refine (cpProblem_same _ _ _ _ _ (subK p c) _ hNu HNu.out FX2.out.rdAt FW1.out.rdAt).mono ?_
    rintro e w6 ⟨rfl, hb⟩
    have HB5 := Lib.hid (bl_trans HB4.out hb)
    have HP4 := Lib.hid (HP3.out.later hb)
    have HC4 := Lib.hid (HC3.out.later hb)
    have FX3 := Lib.hid (FX2.out.below hb)
    have FW2 := Lib.hid (FW1.out.below hb)
    clear hb HP3 HC3 FX2 FW1 HB4
    go_wp2
    go_ret
    exact ⟨rfl, HB5.out⟩
  | true =>
    have HU := Lib.hid hu
    have HNe := Lib.hid (show subN kl p m c = m from (subN_yes (sub_ok hu).1 (sub_ok hu).2).2)
    obtain ⟨a, b, e1, e2, hab, hb4⟩ : ∃ a b : Nat, cntS kl p = a ∧ cntS (subN kl p m c) (subK p c) = b ∧ a ≤ b ∧ b ≤ 4096 := ⟨_, _, rfl, rfl, by rw [HNe.out]; exact sub_cnt hu, cntS_le9 _ _⟩
    have E1 := Lib.hid e1
    have E2 := Lib.hid e2
    clear hu e1 e2
    go_wp2_with fail
    refine (cpProblem_same _ _ _ _ _ (subK p c) _ hNu HNu.out FX1.out.rdAt FW0.out.rdAt).mono ?_
    rintro e w5 ⟨rfl, hb⟩
    have HB4 := Lib.hid (bl_trans HB3.out hb)
    have HP3 := Lib.hid (HP2.out.later hb)
    have HC3 := Lib.hid (HC2.out.later hb)
    have FX2 := Lib.hid (FX1.out.below hb)
    have FW1 := Lib.hid (FW0.out.below hb)
    clear hb HP2 HC2 FX1 FW0 HB3
    go_wp2_with fail
    refine (implCount_any _ _ _ p _ hklB HN.out HP3.out.rd).mono ?_
    rintro e w6 ⟨rfl, hb⟩
    rw [E1.out]
    have HB5 := Lib.hid (bl_trans HB4.out hb)
    have HP4 := Lib.hid (HP3.out.later hb)
    have HC4 := Lib.hid (HC3.out.later hb)
    have FX3 := Lib.hid (FX2.out.below hb)
    have FW2 := Lib.hid (FW1.out.below hb)
    clear hb HP3 HC3 FX2 FW1 HB4
    go_wp2_with fail
    refine (implCount_any _ _ _ (subK p c) _ hNu HNu.out FX3.out.rdAt).mono ?_
    rintro e w7 ⟨rfl, hb⟩
    rw [E2.out]
    have HB6 := Lib.hid (bl_trans HB5.out hb)
    have HP5 := Lib.hid (HP4.out.later hb)
    have HC5 := Lib.hid (HC4.out.later hb)
    have FX4 := Lib.hid (FX3.out.below hb)
    have FW3 := Lib.hid (FW2.out.below hb)
    clear hb HP4 HC4 FX3 FW2 HB5
    have hab' : (a : Int) ≤ (b : Int) := by omega
    rw [HNe.out]
    go_wp2
    go_ret
    exact ⟨ret_bool (by simp), HB6.out⟩

set_option linter.unusedVariables false in
set_option maxRecDepth 100000 in
set_option maxHeartbeats 1600000 in
theorem lawFnSubProblem_walk (A0 : Option Addr) (n0 cap0 : Nat) (y0 : Nat → Int) (w : World) (hm0 : n0 ≤ maxLen) (hc0 : n0 ≤ cap0) (hr0 : RdY w w.heap.size A0 n0 y0) :
    Calls Try.prog 3 #[.slice A0 n0 cap0] w fun e w' => e = .returned (.bool true) ∧ Below w.heap.size w w' := by
  by_cases h0 : n0 ≤ 1048576
  · exact lawFnSubProblem_ok A0 n0 cap0 y0 w h0 hc0 hr0
  · unfold maxLen at hm0
    have hi0 : (1048576 : Int) < (n0 : Int) := by omega
    go_enter Try.func3, Try.ntmps3
    go_wp2
    go_ret
    exact ⟨rfl, Below.refl _ _⟩
end Go.Proofs.Ytnfkhakgikbbeaa
