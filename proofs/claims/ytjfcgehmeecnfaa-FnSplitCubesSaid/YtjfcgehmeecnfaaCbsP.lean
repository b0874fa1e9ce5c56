/- SplitCubes: the program's side, whole (no claim of its own). Conditions: as each theorem states. -/
import Derived.Test.YtjfcgehmeecnfaaCbsI
import Derived.Test.YtjfcgehmeecnfaaCubB
namespace Go.Proofs.Ytjfcgehmeecnfaa
open Go.ChangeShapes Go.WideShapes Go.ChangeAt Go.RowKit Go.Shelf

/-- What SplitCubes leaves. -/
def SplRes (w : World) (n : Nat) (c : Nat → Int) (e : Ending) (w' : World) : Prop :=
  ∃ A cap, e = .returned (.tuple #[.slice A (splN n c) cap, .bool (varsB n c)]) ∧ FrL w' w.heap.size A (splN n c) (cbL c n) ∧ Below w.heap.size w w'
theorem splRes_no {w w' : World} {n : Nat} {c : Nat → Int} {A : Option Addr} {cap : Nat} (h : varsB n c = false) (hb : Below w.heap.size w w') : SplRes w n c (.returned (.tuple #[.slice A 0 cap, .bool false])) w' :=
  ⟨A, cap, by rw [h, splN_no h], by rw [splN_no h]; exact frl_nil _ _ _ _, hb⟩
theorem splRes_yes {w w' : World} {n : Nat} {c : Nat → Int} {A : Option Addr} {cap : Nat} (h : varsB n c = true) (hF : FrL w' w.heap.size A (2 ^ n) (cbL c n)) (hb : Below w.heap.size w w') : SplRes w n c (.returned (.tuple #[.slice A (2 ^ n) cap, .bool true])) w' :=
  ⟨A, cap, by rw [h, splN_yes h], by rw [splN_yes h]; exact hF, hb⟩
theorem vars_bd {n : Nat} {c : Nat → Int} (h : varsB n c = true) : ∀ i, i < n → 1 ≤ c i ∧ c i ≤ 12 := fun i hi => by
  unfold varsB at h
  simp only [Bool.and_eq_true, decide_eq_true_eq] at h
  exact varR_pos h.1 hi

set_option maxRecDepth 100000 in
set_option maxHeartbeats 800000 in
theorem negLit_any (n : Int) (w : World) :
    Calls Try.prog 45 #[.int .i64 n] w fun e w' => e = .returned (.bool (decide (n < 0))) ∧ Below w.heap.size w w' := by
  go_enter Try.func45, Try.ntmps45
  go_wp2_with fail
  refine (litNegated_any _ _).mono ?_
  rintro e w1 ⟨rfl, rfl⟩
  go_wp2
  go_ret
  exact ⟨rfl, Below.refl _ _⟩

set_option linter.unusedVariables false in
set_option maxRecDepth 100000 in
set_option maxHeartbeats 3200000 in
theorem implSplit_any (A : Option Addr) (n cap : Nat) (c : Nat → Int) (w : World) (hn : n ≤ 1048576) (hr : RdI w w.heap.size A n c) :
    Calls Try.prog 17 #[.slice A n cap] w (SplRes w n c) := by
  have hcv := cube_vars (n := n) (c := c)
  cases hcb : cubeB n c with
  | false =>
    rw [hcb, Bool.false_and] at hcv
    have Hfin := Lib.hid hcv.symm
    have Hcb := Lib.hid hcb
    clear hcv hcb
    go_enter Try.func17, Try.ntmps17
    go_wp2_with fail
    refine (isCube_any _ _ _ c _ hn hr).mono ?_
    rintro e w1 ⟨rfl, hb⟩
    rw [Hcb.out]
    have HB1 := Lib.hid hb
    clear hb
    go_wp2
    go_ret2
    exact splRes_no Hfin.out HB1.out
  | true =>
    rw [hcb, Bool.true_and] at hcv
    have Hcb := Lib.hid hcb
    cases hq : anyQ (fun i => decide (c i < 0)) n with
    | true =>
      rw [hq] at hcv
      have Hfin := Lib.hid (show varsB n c = false from hcv.symm)
      have Hq := Lib.hid hq
      clear hcv hcb hq
      go_enter Try.func17, Try.ntmps17
      go_wp2_with fail
      refine (isCube_any _ _ _ c _ hn hr).mono ?_
      rintro e w1 ⟨rfl, hb⟩
      rw [Hcb.out]
      have HB1 := Lib.hid hb
      clear hb
      go_wp2_with fail
      refine (containsJ_any 45 #[] _ _ _ c (fun i => decide (c i < 0)) _ hn (hr.later HB1.out) (enters_of Try.func45 (by kernel_rfl) rfl) (fun k X hk hX => negLit_any _ _)).mono ?_
      rintro e w2 ⟨rfl, hb⟩
      rw [Hq.out]
      have HB2 := Lib.hid (bl_trans HB1.out hb)
      clear hb
      go_wp2
      go_ret2
      exact splRes_no Hfin.out HB2.out
    | false =>
      rw [hq] at hcv
      have hfin : varsB n c = true := hcv.symm
      have Hfin := Lib.hid hfin
      have h4 := vars_4 hfin
      have HBd := Lib.hid (vars_bd hfin)
      have Hq := Lib.hid hq
      clear hcv hcb hq hfin
      go_enter Try.func17, Try.ntmps17
      go_wp2_with fail
      refine (isCube_any _ _ _ c _ hn hr).mono ?_
      rintro e w1 ⟨rfl, hb⟩
      rw [Hcb.out]
      have HB1 := Lib.hid hb
      clear hb
      go_wp2_with fail
      refine (containsJ_any 45 #[] _ _ _ c (fun i => decide (c i < 0)) _ hn (hr.later HB1.out) (enters_of Try.func45 (by kernel_rfl) rfl) (fun k X hk hX => negLit_any _ _)).mono ?_
      rintro e w2 ⟨rfl, hb⟩
      rw [Hq.out]
      have HB2 := Lib.hid (bl_trans HB1.out hb)
      clear hb
      go_wp2_with fail
      refine (cubesOf_any _ _ _ c _ h4 HBd.out (hr.later HB2.out)).mono ?_
      rintro e w3 ⟨A3, cap3, rfl, hF, hb⟩
      have HF := Lib.hid (hF.more HB2.out.size)
      have HB3 := Lib.hid (bl_trans HB2.out hb)
      clear hb hF
      go_wp2
      go_ret2
      exact splRes_yes Hfin.out HF.out HB3.out
end Go.Proofs.Ytjfcgehmeecnfaa
