/- A problem under a cube: the reference's side (no claim of its own). Conditions: as each theorem states. -/
import Derived.Test.YtjfcgehmeecnfaaCubP
import Derived.Test.YtjfcgehmeecnfaaProB
namespace Go.Proofs.Ytjfcgehmeecnfaa
open Go.ChangeShapes Go.WideShapes Go.ChangeAt Go.RowKit

set_option linter.unusedVariables false in
set_option maxRecDepth 100000 in
set_option maxHeartbeats 3200000 in
theorem specUnd_any (A Ak : Option Addr) (n cap m capk : Nat) (p : Nat → Con) (c : Nat → Int) (w : World) (hn : n ≤ 1048576) (hn' : ∀ i, i < n → (p i).n ≤ 1048576) (hm : m ≤ 1048576) (hr : RdPc w w.heap.size A n p) (hrk : RdI w w.heap.size Ak m c) :
    Calls Try.prog 23 #[.slice A n cap, .slice Ak m capk] w (UndRes w n p m c) := by
  have Hpr := Lib.hid (specProblem_any A n cap p w hn hn' hr.rd)
  cases hv : probB n p with
  | false =>
    have Hfin := Lib.hid (und_no (m := m) (c := c) (.inl hv))
    rw [hv] at Hpr
    clear hv hr hn'
    go_enter Try.func23, Try.ntmps23
    go_wp2_with fail
    refine Hpr.out.mono ?_
    rintro e w1 ⟨rfl, hb⟩
    have HB1 := Lib.hid hb
    clear hb
    go_wp2
    go_ret2
    exact undRes_no Hfin.out (bl_alloc HB1.out _)
  | true =>
    rw [hv] at Hpr
    have hn4 := prob_400 hv
    cases hkp : cubeB m c with
    | false =>
      have Hfin := Lib.hid (und_no (n := n) (p := p) (.inr (.inl hkp)))
      have Hkp := Lib.hid hkp
      clear hv hr hn' hkp
      go_enter Try.func23, Try.ntmps23
      go_wp2_with fail
      refine Hpr.out.mono ?_
      rintro e w1 ⟨rfl, hb⟩
      have HB1 := Lib.hid hb
      clear hb
      go_wp2_with fail
      refine (l12Cube_any Ak m capk c _ hm (hrk.later HB1.out)).mono ?_
      rintro e w2 ⟨rfl, hb⟩
      rw [Hkp.out]
      have HB2 := Lib.hid (bl_trans HB1.out hb)
      clear hb
      go_wp2
      go_ret2
      exact undRes_no Hfin.out (bl_alloc HB2.out _)
    | true =>
      have hm4 := (cube_parts hkp).2.2
      by_cases h400 : n + m ≤ 400
      · have Hfin := Lib.hid (und_yes hv hkp h400)
        have Hkp := Lib.hid hkp
        have HN := Lib.hid hn'
        have HR := Lib.hid hr
        have HRk := Lib.hid hrk
        have h4 : ¬ (400 : Int) < (n : Int) + (m : Int) := by omega
        clear hv hr hn' hkp hrk
        go_enter Try.func23, Try.ntmps23
        go_wp2_with fail
        refine Hpr.out.mono ?_
        rintro e w1 ⟨rfl, hb⟩
        have HB1 := Lib.hid hb
        clear hb
        go_wp2_with fail
        refine (l12Cube_any Ak m capk c _ hm (HRk.out.later HB1.out)).mono ?_
        rintro e w2 ⟨rfl, hb⟩
        rw [Hkp.out]
        have HB2 := Lib.hid (bl_trans HB1.out hb)
        clear hb
        go_wp2_with fail
        refine (l12Under_any A Ak n cap m capk p c _ hn4 (by omega) HN.out (HR.out.later HB2.out) (HRk.out.later HB2.out)).mono ?_
        rintro e w3 ⟨A3, cap3, rfl, hF, hb⟩
        have HF := Lib.hid (hF.more HB2.out.size)
        have HB3 := Lib.hid (bl_trans HB2.out hb)
        clear hb hF
        go_wp2
        go_ret2
        exact undRes_yes Hfin.out HF.out HB3.out
      · have Hfin := Lib.hid (und_no (n := n) (p := p) (m := m) (c := c) (.inr (.inr h400)))
        have Hkp := Lib.hid hkp
        have h4 : (400 : Int) < (n : Int) + (m : Int) := by omega
        clear hv hr hn' hkp
        go_enter Try.func23, Try.ntmps23
        go_wp2_with fail
        refine Hpr.out.mono ?_
        rintro e w1 ⟨rfl, hb⟩
        have HB1 := Lib.hid hb
        clear hb
        go_wp2_with fail
        refine (l12Cube_any Ak m capk c _ hm (hrk.later HB1.out)).mono ?_
        rintro e w2 ⟨rfl, hb⟩
        rw [Hkp.out]
        have HB2 := Lib.hid (bl_trans HB1.out hb)
        clear hb
        go_wp2
        go_ret2
        exact undRes_no Hfin.out (bl_alloc HB2.out _)
end Go.Proofs.Ytjfcgehmeecnfaa
