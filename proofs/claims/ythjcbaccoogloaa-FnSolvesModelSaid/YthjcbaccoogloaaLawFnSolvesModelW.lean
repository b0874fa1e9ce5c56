/- The walk of the law FnSolvesModel (no claim of its own). Conditions: as each theorem states. -/
import Derived.Test.YthjcbaccoogloaaDmJ
import Derived.Test.YthjcbaccoogloaaRhZ
import Derived.Test.YthjcbaccoogloaaClsA
import Derived.BigQuiet
namespace Go.Proofs.Ythjcbaccoogloaa
open Go.ChangeShapes Go.WideShapes Go.ChangeAt Go.RowKit

set_option linter.unusedSimpArgs false in
set_option linter.unusedVariables false in
set_option maxRecDepth 100000 in
set_option maxHeartbeats 6400000 in
theorem lawFnSolvesModel_ok (A0 : Option Addr) (n0 cap0 : Nat) (y0 : Nat → Int) (w : World) (h0 : n0 ≤ 1048576) (hc0 : n0 ≤ cap0) (hr0 : RdY w w.heap.size A0 n0 y0) :
    Calls Try.prog 3 #[.slice A0 n0 cap0] w fun e w' => e = .returned (.bool true) ∧ Below w.heap.size w w' := by
  have hm0 : n0 ≤ maxLen := by unfold maxLen; omega
  have hi0 : ¬ (1048576 : Int) < (n0 : Int) := by omega
  go_enter Try.func3, Try.ntmps3
  go_wp2_with fail
  refine (drawSolves_any _ _ _ y0 _ hm0 hc0 hr0).mono ?_
  rintro e w1 ⟨As, cs, Ar, cr, sn, n, Ac, kc, cc, rfl, hmt, hkc, htc⟩
  obtain ⟨s, q, rfl, hm⟩ := hmt.rd
  obtain ⟨A', c', v, e, hv⟩ := htc.rd
  cases e
  obtain ⟨c, rfl, hc⟩ : ∃ c : Lst, c.n = kc ∧ RdI w1 w1.heap.size Ac c.n c.x := ⟨⟨kc, v⟩, rfl, hv⟩
  have p1 : s.n ≤ 1048576 := by have := hm.hs; omega
  have p2 : c.n ≤ 1048576 := by omega
  have p3 : n ≤ 1048576 := by have := hm.hn; omega
  have p4 := Lib.hid (fun i hi => Rul.fit_more (hm.fit i hi) (show 22 ≤ 1048576 by omega))
  have HB := Lib.hid hm.bl
  have HM := Lib.hid hm
  have HC := Lib.hid hc
  clear hmt htc hm hc hv
  go_wp2_with fail
  have hal := bl_alloc (Below.refl w1.heap.size w1) (.cells #[.slice As s.n cs, .slice Ar n cr] 26)
  have x0 : (w1.alloc (.cells #[.slice As s.n cs, .slice Ar n cr] 26)).cell? ⟨w1.heap.size, 0, none⟩ = some (.slice As s.n cs) := by go_simp
  have x1 : (w1.alloc (.cells #[.slice As s.n cs, .slice Ar n cr] 26)).cell? ⟨w1.heap.size, 1, none⟩ = some (.slice Ar n cr) := by go_simp
  have HB' := Lib.hid (bl_trans HB.out hal)
  have HM' := Lib.hid (HM.out.later hal)
  have HC' := Lib.hid (HC.out.later hal)
  clear hal HB HM HC
  have HB := HB'
  clear HB'
  have HM := HM'
  clear HM'
  have HC := HC'
  clear HC'
  generalize (w1.alloc (.cells #[.slice As s.n cs, .slice Ar n cr] 26)) = w2 at *
  obtain ⟨X, hX⟩ : ∃ X, w1.heap.size = X := ⟨_, rfl⟩
  rw [hX] at x0 x1 ⊢
  clear hX
  refine (implSolves_any s c n q As Ar Ac cs cr cc _ p1 p2 p3 p4.out HM.out.rs HM.out.rr HC.out).mono ?_
  rintro e w3 ⟨rfl, hb⟩
  have HB' := Lib.hid (bl_trans HB.out hb)
  have HM' := Lib.hid (HM.out.later hb)
  have HC' := Lib.hid (HC.out.later hb)
  replace x0 := kc hb x0
  replace x1 := kc hb x1
  clear hb HB HM HC
  have HB := HB'
  clear HB'
  have HM := HM'
  clear HM'
  have HC := HC'
  clear HC'
  cases hcv : cvB s n q c with
  | false =>
    have HSM := Lib.hid (show smB s n q c = false from by unfold smB; rw [hcv]; rfl)
    have HCV := Lib.hid hcv
    rw [HSM.out]
    go_wp2_with fail
    refine region_class (C := Cls w3) (by kernel_rfl) (by kernel_rfl) (Below.refl w3.heap.size w3).drew ?_
    refine BigFrame.wpQuiet_want (by rfl) (fun K hK => quiet_val (v := .bool false) (fun w' hw => ?_) (hK _ ?_))
    · clear x0 x1 hK K
      go_simp
    clear hK K
    simp only [Act.put, List.setIfInBounds_toArray, List.set_cons_succ, List.set_cons_zero]
    refine BigFrame.wpQuiet_want (by rfl) (fun K hK => quiet_val (v := .agg #[.slice As s.n cs, .slice Ar n cr]) (fun w' hw => ?_) (hK _ ?_))
    · have e0 := kc hw x0; have e1 := kc hw x1; clear x0 x1 hK K
      go_simp
    clear hK K
    simp only [Act.put, List.setIfInBounds_toArray, List.set_cons_succ, List.set_cons_zero]
    refine BigFrame.wpQuiet_want (by rfl) (fun K hK => quiet_val (v := .slice Ac c.n cc) (fun w' hw => ?_) (hK _ ?_))
    · clear x0 x1 hK K
      go_simp
    clear hK K
    simp only [Act.put, List.setIfInBounds_toArray, List.set_cons_succ, List.set_cons_zero]
    refine BigFrame.wpQuiet_want (by rfl) (fun K hK => quiet_enter (v := .bool false) (f := 14) (args := #[.agg #[.slice As s.n cs, .slice Ar n cr], .slice Ac c.n cc]) (fun w' hw => ?_) (fun w' hw => ?_) (hK _ ?_))
    · go_simp
    · refine (specSolves_any s c n q As Ar Ac cs cr cc _ p1 p2 p3 p4.out (HM.out.later hw).rs (HM.out.later hw).rr (HC.out.later hw)).mono ?_
      rintro e w8 ⟨rfl, hb⟩
      exact ⟨by rw [HSM.out], bl_trans hw hb⟩
    clear hK K
    simp only [Act.put, List.setIfInBounds_toArray, List.set_cons_succ, List.set_cons_zero]
    refine BigFrame.wpQuiet_want (by rfl) (fun K hK => quiet_val (v := .bool false) (fun w' hw => ?_) (hK _ ?_))
    · clear x0 x1 hK K
      go_simp
    clear hK K
    simp only [Act.put, List.setIfInBounds_toArray, List.set_cons_succ, List.set_cons_zero]
    refine BigFrame.wpQuiet_want (by rfl) (fun K hK => quiet_val (v := .bool false) (fun w' hw => ?_) (hK _ ?_))
    · clear x0 x1 hK K
      go_simp
    clear hK K
    simp only [Act.put, List.setIfInBounds_toArray, List.set_cons_succ, List.set_cons_zero]
    refine BigFrame.wpQuiet_want (by rfl) (fun K hK => quiet_val (v := .agg #[.slice As s.n cs, .slice Ar n cr]) (fun w' hw => ?_) (hK _ ?_))
    · have e0 := kc hw x0; have e1 := kc hw x1; clear x0 x1 hK K
      go_simp
    clear hK K
    simp only [Act.put, List.setIfInBounds_toArray, List.set_cons_succ, List.set_cons_zero]
    refine BigFrame.wpQuiet_want (by rfl) (fun K hK => quiet_val (v := .slice Ac c.n cc) (fun w' hw => ?_) (hK _ ?_))
    · clear x0 x1 hK K
      go_simp
    clear hK K
    simp only [Act.put, List.setIfInBounds_toArray, List.set_cons_succ, List.set_cons_zero]
    refine BigFrame.wpQuiet_want (by rfl) (fun K hK => quiet_enter (v := .bool false) (f := 15) (args := #[.agg #[.slice As s.n cs, .slice Ar n cr], .slice Ac c.n cc]) (fun w' hw => ?_) (fun w' hw => ?_) (hK _ ?_))
    · go_simp
    · refine (implCells_any s c n q As Ar Ac cs cr cc _ p1 p2 p3 p4.out (HM.out.later hw).rs (HM.out.later hw).rr (HC.out.later hw)).mono ?_
      rintro e w8 ⟨rfl, hb⟩
      exact ⟨by rw [HCV.out], bl_trans hw hb⟩
    clear hK K
    simp only [Act.put, List.setIfInBounds_toArray, List.set_cons_succ, List.set_cons_zero]
    refine BigFrame.wpQuiet_want (by rfl) (fun K hK => quiet_val (v := .agg #[.slice As s.n cs, .slice Ar n cr]) (fun w' hw => ?_) (hK _ ?_))
    · have e0 := kc hw x0; have e1 := kc hw x1; clear x0 x1 hK K
      go_simp
    clear hK K
    simp only [Act.put, List.setIfInBounds_toArray, List.set_cons_succ, List.set_cons_zero]
    refine BigFrame.wpQuiet_want (by rfl) (fun K hK => quiet_val (v := .slice Ac c.n cc) (fun w' hw => ?_) (hK _ ?_))
    · clear x0 x1 hK K
      go_simp
    clear hK K
    simp only [Act.put, List.setIfInBounds_toArray, List.set_cons_succ, List.set_cons_zero]
    refine BigFrame.wpQuiet_want (by rfl) (fun K hK => quiet_enter (v := .bool false) (f := 16) (args := #[.agg #[.slice As s.n cs, .slice Ar n cr], .slice Ac c.n cc]) (fun w' hw => ?_) (fun w' hw => ?_) (hK _ ?_))
    · go_simp
    · refine (specCells_any s c n q As Ar Ac cs cr cc _ p1 p2 p3 p4.out (HM.out.later hw).rs (HM.out.later hw).rr (HC.out.later hw)).mono ?_
      rintro e w8 ⟨rfl, hb⟩
      exact ⟨by rw [HCV.out], bl_trans hw hb⟩
    clear hK K
    simp only [Act.put, List.setIfInBounds_toArray, List.set_cons_succ, List.set_cons_zero]
    refine BigFrame.wpQuiet_want (by rfl) (fun K hK => quiet_val (v := .bool false) (fun w' hw => ?_) (hK _ ?_))
    · clear x0 x1 hK K
      go_simp
    clear hK K
    simp only [Act.put, List.setIfInBounds_toArray, List.set_cons_succ, List.set_cons_zero]
    refine BigFrame.wpQuiet_want (by rfl) (fun K hK => quiet_val (v := .bool false) (fun w' hw => ?_) (hK _ ?_))
    · clear x0 x1 hK K
      go_simp
    clear hK K
    simp only [Act.put, List.setIfInBounds_toArray, List.set_cons_succ, List.set_cons_zero]
    refine BigFrame.wpQuiet_want (by rfl) (fun K hK => quiet_val (v := .bool false) (fun w' hw => ?_) (hK _ ?_))
    · clear x0 x1 hK K
      go_simp
    clear hK K
    simp only [Act.put, List.setIfInBounds_toArray, List.set_cons_succ, List.set_cons_zero]
    refine BigFrame.wpQuiet_want (by rfl) (fun K hK => quiet_val (v := .agg #[.slice As s.n cs, .slice Ar n cr]) (fun w' hw => ?_) (hK _ ?_))
    · have e0 := kc hw x0; have e1 := kc hw x1; clear x0 x1 hK K
      go_simp
    clear hK K
    simp only [Act.put, List.setIfInBounds_toArray, List.set_cons_succ, List.set_cons_zero]
    refine BigFrame.wpQuiet_want (by rfl) (fun K hK => quiet_val (v := .slice Ac c.n cc) (fun w' hw => ?_) (hK _ ?_))
    · clear x0 x1 hK K
      go_simp
    clear hK K
    simp only [Act.put, List.setIfInBounds_toArray, List.set_cons_succ, List.set_cons_zero]
    refine BigFrame.wpQuiet_want (by rfl) (fun K hK => quiet_enter (v := .bool false) (f := 15) (args := #[.agg #[.slice As s.n cs, .slice Ar n cr], .slice Ac c.n cc]) (fun w' hw => ?_) (fun w' hw => ?_) (hK _ ?_))
    · go_simp
    · refine (implCells_any s c n q As Ar Ac cs cr cc _ p1 p2 p3 p4.out (HM.out.later hw).rs (HM.out.later hw).rr (HC.out.later hw)).mono ?_
      rintro e w8 ⟨rfl, hb⟩
      exact ⟨by rw [HCV.out], bl_trans hw hb⟩
    clear hK K
    simp only [Act.put, List.setIfInBounds_toArray, List.set_cons_succ, List.set_cons_zero]
    refine BigFrame.wpQuiet_want (by rfl) (fun K hK => quiet_val (v := .bool true) (fun w' hw => ?_) (hK _ ?_))
    · clear x0 x1 hK K
      go_simp
    clear hK K
    simp only [Act.put, List.setIfInBounds_toArray, List.set_cons_succ, List.set_cons_zero]
    refine BigFrame.wpQuiet_want (by rfl) (fun K hK => quiet_val (v := .bool true) (fun w' hw => ?_) (hK _ ?_))
    · clear x0 x1 hK K
      go_simp
    clear hK K
    simp only [Act.put, List.setIfInBounds_toArray, List.set_cons_succ, List.set_cons_zero]
    refine wpQuiet_nil ?_
    intro w4 hw9
    have HB' := Lib.hid (bl_trans HB.out hw9)
    have HM' := Lib.hid (HM.out.later hw9)
    have HC' := Lib.hid (HC.out.later hw9)
    replace x0 := kc hw9 x0
    replace x1 := kc hw9 x1
    clear hw9 HB HM HC
    have HB := HB'
    clear HB'
    have HM := HM'
    clear HM'
    have HC := HC'
    clear HC'
    go_wp2_with fail
    refine region_class (C := Cls w4) (by kernel_rfl) (by kernel_rfl) (Below.refl w4.heap.size w4).drew ?_
    refine BigFrame.wpQuiet_want (by rfl) (fun K hK => quiet_val (v := .bool false) (fun w' hw => ?_) (hK _ ?_))
    · clear x0 x1 hK K
      go_simp
    clear hK K
    simp only [Act.put, List.setIfInBounds_toArray, List.set_cons_succ, List.set_cons_zero]
    refine BigFrame.wpQuiet_want (by rfl) (fun K hK => quiet_val (v := .agg #[.slice As s.n cs, .slice Ar n cr]) (fun w' hw => ?_) (hK _ ?_))
    · have e0 := kc hw x0; have e1 := kc hw x1; clear x0 x1 hK K
      go_simp
    clear hK K
    simp only [Act.put, List.setIfInBounds_toArray, List.set_cons_succ, List.set_cons_zero]
    refine BigFrame.wpQuiet_want (by rfl) (fun K hK => quiet_val (v := .slice Ac c.n cc) (fun w' hw => ?_) (hK _ ?_))
    · clear x0 x1 hK K
      go_simp
    clear hK K
    simp only [Act.put, List.setIfInBounds_toArray, List.set_cons_succ, List.set_cons_zero]
    refine BigFrame.wpQuiet_want (by rfl) (fun K hK => quiet_enter (v := .bool false) (f := 14) (args := #[.agg #[.slice As s.n cs, .slice Ar n cr], .slice Ac c.n cc]) (fun w' hw => ?_) (fun w' hw => ?_) (hK _ ?_))
    · go_simp
    · refine (specSolves_any s c n q As Ar Ac cs cr cc _ p1 p2 p3 p4.out (HM.out.later hw).rs (HM.out.later hw).rr (HC.out.later hw)).mono ?_
      rintro e w8 ⟨rfl, hb⟩
      exact ⟨by rw [HSM.out], bl_trans hw hb⟩
    clear hK K
    simp only [Act.put, List.setIfInBounds_toArray, List.set_cons_succ, List.set_cons_zero]
    refine BigFrame.wpQuiet_want (by rfl) (fun K hK => quiet_val (v := .bool true) (fun w' hw => ?_) (hK _ ?_))
    · clear x0 x1 hK K
      go_simp
    clear hK K
    simp only [Act.put, List.setIfInBounds_toArray, List.set_cons_succ, List.set_cons_zero]
    refine BigFrame.wpQuiet_want (by rfl) (fun K hK => quiet_val (v := .bool true) (fun w' hw => ?_) (hK _ ?_))
    · clear x0 x1 hK K
      go_simp
    clear hK K
    simp only [Act.put, List.setIfInBounds_toArray, List.set_cons_succ, List.set_cons_zero]
    refine BigFrame.wpQuiet_want (by rfl) (fun K hK => quiet_val (v := .agg #[.slice As s.n cs, .slice Ar n cr]) (fun w' hw => ?_) (hK _ ?_))
    · have e0 := kc hw x0; have e1 := kc hw x1; clear x0 x1 hK K
      go_simp
    clear hK K
    simp only [Act.put, List.setIfInBounds_toArray, List.set_cons_succ, List.set_cons_zero]
    refine BigFrame.wpQuiet_want (by rfl) (fun K hK => quiet_val (v := .slice Ac c.n cc) (fun w' hw => ?_) (hK _ ?_))
    · clear x0 x1 hK K
      go_simp
    clear hK K
    simp only [Act.put, List.setIfInBounds_toArray, List.set_cons_succ, List.set_cons_zero]
    refine BigFrame.wpQuiet_want (by rfl) (fun K hK => quiet_enter (v := .bool false) (f := 15) (args := #[.agg #[.slice As s.n cs, .slice Ar n cr], .slice Ac c.n cc]) (fun w' hw => ?_) (fun w' hw => ?_) (hK _ ?_))
    · go_simp
    · refine (implCells_any s c n q As Ar Ac cs cr cc _ p1 p2 p3 p4.out (HM.out.later hw).rs (HM.out.later hw).rr (HC.out.later hw)).mono ?_
      rintro e w8 ⟨rfl, hb⟩
      exact ⟨by rw [HCV.out], bl_trans hw hb⟩
    clear hK K
    simp only [Act.put, List.setIfInBounds_toArray, List.set_cons_succ, List.set_cons_zero]
    refine BigFrame.wpQuiet_want (by rfl) (fun K hK => quiet_val (v := .agg #[.slice As s.n cs, .slice Ar n cr]) (fun w' hw => ?_) (hK _ ?_))
    · have e0 := kc hw x0; have e1 := kc hw x1; clear x0 x1 hK K
      go_simp
    clear hK K
    simp only [Act.put, List.setIfInBounds_toArray, List.set_cons_succ, List.set_cons_zero]
    refine BigFrame.wpQuiet_want (by rfl) (fun K hK => quiet_val (v := .slice Ac c.n cc) (fun w' hw => ?_) (hK _ ?_))
    · clear x0 x1 hK K
      go_simp
    clear hK K
    simp only [Act.put, List.setIfInBounds_toArray, List.set_cons_succ, List.set_cons_zero]
    refine BigFrame.wpQuiet_want (by rfl) (fun K hK => quiet_enter (v := .bool false) (f := 16) (args := #[.agg #[.slice As s.n cs, .slice Ar n cr], .slice Ac c.n cc]) (fun w' hw => ?_) (fun w' hw => ?_) (hK _ ?_))
    · go_simp
    · refine (specCells_any s c n q As Ar Ac cs cr cc _ p1 p2 p3 p4.out (HM.out.later hw).rs (HM.out.later hw).rr (HC.out.later hw)).mono ?_
      rintro e w8 ⟨rfl, hb⟩
      exact ⟨by rw [HCV.out], bl_trans hw hb⟩
    clear hK K
    simp only [Act.put, List.setIfInBounds_toArray, List.set_cons_succ, List.set_cons_zero]
    refine BigFrame.wpQuiet_want (by rfl) (fun K hK => quiet_val (v := .bool true) (fun w' hw => ?_) (hK _ ?_))
    · clear x0 x1 hK K
      go_simp
    clear hK K
    simp only [Act.put, List.setIfInBounds_toArray, List.set_cons_succ, List.set_cons_zero]
    refine BigFrame.wpQuiet_want (by rfl) (fun K hK => quiet_val (v := .bool true) (fun w' hw => ?_) (hK _ ?_))
    · clear x0 x1 hK K
      go_simp
    clear hK K
    simp only [Act.put, List.setIfInBounds_toArray, List.set_cons_succ, List.set_cons_zero]
    refine BigFrame.wpQuiet_want (by rfl) (fun K hK => quiet_val (v := .bool true) (fun w' hw => ?_) (hK _ ?_))
    · clear x0 x1 hK K
      go_simp
    clear hK K
    simp only [Act.put, List.setIfInBounds_toArray, List.set_cons_succ, List.set_cons_zero]
    refine wpQuiet_nil ?_
    intro w5 hw9
    have HB5 := Lib.hid (bl_trans HB.out hw9)
    clear hw9 x0 x1
    go_wp2
    go_ret
    exact ⟨rfl, HB5.out⟩
  | true =>
    cases hso : solB n q c.x with
    | false =>
      have HSM := Lib.hid (show smB s n q c = false from by unfold smB; rw [hcv]; rw [hso]; rfl)
      have HCV := Lib.hid hcv
      rw [HSM.out]
      go_wp2_with fail
      refine region_class (C := Cls w3) (by kernel_rfl) (by kernel_rfl) (Below.refl w3.heap.size w3).drew ?_
      refine BigFrame.wpQuiet_want (by rfl) (fun K hK => quiet_val (v := .bool false) (fun w' hw => ?_) (hK _ ?_))
      · clear x0 x1 hK K
        go_simp
      clear hK K
      simp only [Act.put, List.setIfInBounds_toArray, List.set_cons_succ, List.set_cons_zero]
      refine BigFrame.wpQuiet_want (by rfl) (fun K hK => quiet_val (v := .agg #[.slice As s.n cs, .slice Ar n cr]) (fun w' hw => ?_) (hK _ ?_))
      · have e0 := kc hw x0; have e1 := kc hw x1; clear x0 x1 hK K
        go_simp
      clear hK K
      simp only [Act.put, List.setIfInBounds_toArray, List.set_cons_succ, List.set_cons_zero]
      refine BigFrame.wpQuiet_want (by rfl) (fun K hK => quiet_val (v := .slice Ac c.n cc) (fun w' hw => ?_) (hK _ ?_))
      · clear x0 x1 hK K
        go_simp
      clear hK K
      simp only [Act.put, List.setIfInBounds_toArray, List.set_cons_succ, List.set_cons_zero]
      refine BigFrame.wpQuiet_want (by rfl) (fun K hK => quiet_enter (v := .bool false) (f := 14) (args := #[.agg #[.slice As s.n cs, .slice Ar n cr], .slice Ac c.n cc]) (fun w' hw => ?_) (fun w' hw => ?_) (hK _ ?_))
      · go_simp
      · refine (specSolves_any s c n q As Ar Ac cs cr cc _ p1 p2 p3 p4.out (HM.out.later hw).rs (HM.out.later hw).rr (HC.out.later hw)).mono ?_
        rintro e w8 ⟨rfl, hb⟩
        exact ⟨by rw [HSM.out], bl_trans hw hb⟩
      clear hK K
      simp only [Act.put, List.setIfInBounds_toArray, List.set_cons_succ, List.set_cons_zero]
      refine BigFrame.wpQuiet_want (by rfl) (fun K hK => quiet_val (v := .bool false) (fun w' hw => ?_) (hK _ ?_))
      · clear x0 x1 hK K
        go_simp
      clear hK K
      simp only [Act.put, List.setIfInBounds_toArray, List.set_cons_succ, List.set_cons_zero]
      refine BigFrame.wpQuiet_want (by rfl) (fun K hK => quiet_val (v := .bool false) (fun w' hw => ?_) (hK _ ?_))
      · clear x0 x1 hK K
        go_simp
      clear hK K
      simp only [Act.put, List.setIfInBounds_toArray, List.set_cons_succ, List.set_cons_zero]
      refine BigFrame.wpQuiet_want (by rfl) (fun K hK => quiet_val (v := .agg #[.slice As s.n cs, .slice Ar n cr]) (fun w' hw => ?_) (hK _ ?_))
      · have e0 := kc hw x0; have e1 := kc hw x1; clear x0 x1 hK K
        go_simp
      clear hK K
      simp only [Act.put, List.setIfInBounds_toArray, List.set_cons_succ, List.set_cons_zero]
      refine BigFrame.wpQuiet_want (by rfl) (fun K hK => quiet_val (v := .slice Ac c.n cc) (fun w' hw => ?_) (hK _ ?_))
      · clear x0 x1 hK K
        go_simp
      clear hK K
      simp only [Act.put, List.setIfInBounds_toArray, List.set_cons_succ, List.set_cons_zero]
      refine BigFrame.wpQuiet_want (by rfl) (fun K hK => quiet_enter (v := .bool true) (f := 15) (args := #[.agg #[.slice As s.n cs, .slice Ar n cr], .slice Ac c.n cc]) (fun w' hw => ?_) (fun w' hw => ?_) (hK _ ?_))
      · go_simp
      · refine (implCells_any s c n q As Ar Ac cs cr cc _ p1 p2 p3 p4.out (HM.out.later hw).rs (HM.out.later hw).rr (HC.out.later hw)).mono ?_
        rintro e w8 ⟨rfl, hb⟩
        exact ⟨by rw [HCV.out], bl_trans hw hb⟩
      clear hK K
      simp only [Act.put, List.setIfInBounds_toArray, List.set_cons_succ, List.set_cons_zero]
      refine BigFrame.wpQuiet_want (by rfl) (fun K hK => quiet_val (v := .agg #[.slice As s.n cs, .slice Ar n cr]) (fun w' hw => ?_) (hK _ ?_))
      · have e0 := kc hw x0; have e1 := kc hw x1; clear x0 x1 hK K
        go_simp
      clear hK K
      simp only [Act.put, List.setIfInBounds_toArray, List.set_cons_succ, List.set_cons_zero]
      refine BigFrame.wpQuiet_want (by rfl) (fun K hK => quiet_val (v := .slice Ac c.n cc) (fun w' hw => ?_) (hK _ ?_))
      · clear x0 x1 hK K
        go_simp
      clear hK K
      simp only [Act.put, List.setIfInBounds_toArray, List.set_cons_succ, List.set_cons_zero]
      refine BigFrame.wpQuiet_want (by rfl) (fun K hK => quiet_enter (v := .bool true) (f := 16) (args := #[.agg #[.slice As s.n cs, .slice Ar n cr], .slice Ac c.n cc]) (fun w' hw => ?_) (fun w' hw => ?_) (hK _ ?_))
      · go_simp
      · refine (specCells_any s c n q As Ar Ac cs cr cc _ p1 p2 p3 p4.out (HM.out.later hw).rs (HM.out.later hw).rr (HC.out.later hw)).mono ?_
        rintro e w8 ⟨rfl, hb⟩
        exact ⟨by rw [HCV.out], bl_trans hw hb⟩
      clear hK K
      simp only [Act.put, List.setIfInBounds_toArray, List.set_cons_succ, List.set_cons_zero]
      refine BigFrame.wpQuiet_want (by rfl) (fun K hK => quiet_val (v := .bool false) (fun w' hw => ?_) (hK _ ?_))
      · clear x0 x1 hK K
        go_simp
      clear hK K
      simp only [Act.put, List.setIfInBounds_toArray, List.set_cons_succ, List.set_cons_zero]
      refine BigFrame.wpQuiet_want (by rfl) (fun K hK => quiet_val (v := .bool false) (fun w' hw => ?_) (hK _ ?_))
      · clear x0 x1 hK K
        go_simp
      clear hK K
      simp only [Act.put, List.setIfInBounds_toArray, List.set_cons_succ, List.set_cons_zero]
      refine BigFrame.wpQuiet_want (by rfl) (fun K hK => quiet_val (v := .bool false) (fun w' hw => ?_) (hK _ ?_))
      · clear x0 x1 hK K
        go_simp
      clear hK K
      simp only [Act.put, List.setIfInBounds_toArray, List.set_cons_succ, List.set_cons_zero]
      refine BigFrame.wpQuiet_want (by rfl) (fun K hK => quiet_val (v := .agg #[.slice As s.n cs, .slice Ar n cr]) (fun w' hw => ?_) (hK _ ?_))
      · have e0 := kc hw x0; have e1 := kc hw x1; clear x0 x1 hK K
        go_simp
      clear hK K
      simp only [Act.put, List.setIfInBounds_toArray, List.set_cons_succ, List.set_cons_zero]
      refine BigFrame.wpQuiet_want (by rfl) (fun K hK => quiet_val (v := .slice Ac c.n cc) (fun w' hw => ?_) (hK _ ?_))
      · clear x0 x1 hK K
        go_simp
      clear hK K
      simp only [Act.put, List.setIfInBounds_toArray, List.set_cons_succ, List.set_cons_zero]
      refine BigFrame.wpQuiet_want (by rfl) (fun K hK => quiet_enter (v := .bool true) (f := 15) (args := #[.agg #[.slice As s.n cs, .slice Ar n cr], .slice Ac c.n cc]) (fun w' hw => ?_) (fun w' hw => ?_) (hK _ ?_))
      · go_simp
      · refine (implCells_any s c n q As Ar Ac cs cr cc _ p1 p2 p3 p4.out (HM.out.later hw).rs (HM.out.later hw).rr (HC.out.later hw)).mono ?_
        rintro e w8 ⟨rfl, hb⟩
        exact ⟨by rw [HCV.out], bl_trans hw hb⟩
      clear hK K
      simp only [Act.put, List.setIfInBounds_toArray, List.set_cons_succ, List.set_cons_zero]
      refine BigFrame.wpQuiet_want (by rfl) (fun K hK => quiet_val (v := .bool false) (fun w' hw => ?_) (hK _ ?_))
      · clear x0 x1 hK K
        go_simp
      clear hK K
      simp only [Act.put, List.setIfInBounds_toArray, List.set_cons_succ, List.set_cons_zero]
      refine BigFrame.wpQuiet_want (by rfl) (fun K hK => quiet_val (v := .bool false) (fun w' hw => ?_) (hK _ ?_))
      · clear x0 x1 hK K
        go_simp
      clear hK K
      simp only [Act.put, List.setIfInBounds_toArray, List.set_cons_succ, List.set_cons_zero]
      refine wpQuiet_nil ?_
      intro w4 hw9
      have HB' := Lib.hid (bl_trans HB.out hw9)
      have HM' := Lib.hid (HM.out.later hw9)
      have HC' := Lib.hid (HC.out.later hw9)
      replace x0 := kc hw9 x0
      replace x1 := kc hw9 x1
      clear hw9 HB HM HC
      have HB := HB'
      clear HB'
      have HM := HM'
      clear HM'
      have HC := HC'
      clear HC'
      go_wp2_with fail
      have HSo := Lib.hid (show prE (fun i => holdB (q i) c.x) n = false from hso)
      clear hso hcv HSM
      go_loopw [6, 7] (fun a j wr => ∃ i : Nat, i ≤ n ∧ j = .int .i64 i ∧ a = .bool (prE (fun i => holdB (q i) c.x) i) ∧ Below w4.heap.size w4 wr) (fun _ j _ => n - (intOf j).toNat)
      case atStart => exact ⟨0, Nat.zero_le _, rfl, rfl, Below.refl _ _⟩
      case round =>
        obtain ⟨i, hi, rfl, rfl, hb⟩ := hrel
        have xr0 := kc hb x0
        have xr1 := kc hb x1
        have HBr := Lib.hid hb
        clear x0 x1 hb
        by_cases hlt : i < n
        · have hltI : (i : Int) < (n : Int) := by omega
          have hiI : (0 : Int) ≤ (i : Int) := by omega
          have HV := Lib.hid (show rhB s n q c (i : Int) = holdB (q i) c.x from by unfold rhB; rw [HCV.out]; simp [hltI])
          cases hp : prE (fun i => holdB (q i) c.x) i with
          | false =>
            have HP := Lib.hid (show prE (fun i => holdB (q i) c.x) (i + 1) = false from by show (prE (fun i => holdB (q i) c.x) i && holdB (q i) c.x) = false; rw [hp]; rfl)
            clear hp
            go_wp2
            go_roundw
            case rel => exact ⟨i + 1, by omega, by go_num, by rw [HP.out], HBr.out⟩
            case measure => simp [intOf]; omega
          | true =>
            have HP := Lib.hid (show prE (fun i => holdB (q i) c.x) (i + 1) = holdB (q i) c.x from by show (prE (fun i => holdB (q i) c.x) i && holdB (q i) c.x) = _; rw [hp]; rfl)
            clear hp
            go_wp2_with fail
            refine (implHolds_any s c n q (i : Int) As Ar Ac cs cr cc _ p1 p2 p3 p4.out (HM.out.later HBr.out).rs (HM.out.later HBr.out).rr (HC.out.later HBr.out)).mono ?_
            rintro e w6 ⟨rfl, hb⟩
            rw [HV.out]
            have HB6 := Lib.hid (bl_trans HBr.out hb)
            clear hb
            go_wp2
            go_roundw
            case rel => exact ⟨i + 1, by omega, by go_num, by rw [HP.out], HB6.out⟩
            case measure => simp [intOf]; omega
        · obtain rfl : i = n := by omega
          rw [HSo.out]
          go_wp2
          go_ret
          exact ⟨rfl, bl_trans HB.out HBr.out⟩
    | true =>
      have HSM := Lib.hid (show smB s n q c = true from by unfold smB; rw [hcv]; rw [hso]; rfl)
      have HCV := Lib.hid hcv
      rw [HSM.out]
      go_wp2_with fail
      refine region_class (C := Cls w3) (by kernel_rfl) (by kernel_rfl) (Below.refl w3.heap.size w3).drew ?_
      refine BigFrame.wpQuiet_want (by rfl) (fun K hK => quiet_val (v := .bool true) (fun w' hw => ?_) (hK _ ?_))
      · clear x0 x1 hK K
        go_simp
      clear hK K
      simp only [Act.put, List.setIfInBounds_toArray, List.set_cons_succ, List.set_cons_zero]
      refine BigFrame.wpQuiet_want (by rfl) (fun K hK => quiet_val (v := .agg #[.slice As s.n cs, .slice Ar n cr]) (fun w' hw => ?_) (hK _ ?_))
      · have e0 := kc hw x0; have e1 := kc hw x1; clear x0 x1 hK K
        go_simp
      clear hK K
      simp only [Act.put, List.setIfInBounds_toArray, List.set_cons_succ, List.set_cons_zero]
      refine BigFrame.wpQuiet_want (by rfl) (fun K hK => quiet_val (v := .slice Ac c.n cc) (fun w' hw => ?_) (hK _ ?_))
      · clear x0 x1 hK K
        go_simp
      clear hK K
      simp only [Act.put, List.setIfInBounds_toArray, List.set_cons_succ, List.set_cons_zero]
      refine BigFrame.wpQuiet_want (by rfl) (fun K hK => quiet_enter (v := .bool true) (f := 14) (args := #[.agg #[.slice As s.n cs, .slice Ar n cr], .slice Ac c.n cc]) (fun w' hw => ?_) (fun w' hw => ?_) (hK _ ?_))
      · go_simp
      · refine (specSolves_any s c n q As Ar Ac cs cr cc _ p1 p2 p3 p4.out (HM.out.later hw).rs (HM.out.later hw).rr (HC.out.later hw)).mono ?_
        rintro e w8 ⟨rfl, hb⟩
        exact ⟨by rw [HSM.out], bl_trans hw hb⟩
      clear hK K
      simp only [Act.put, List.setIfInBounds_toArray, List.set_cons_succ, List.set_cons_zero]
      refine BigFrame.wpQuiet_want (by rfl) (fun K hK => quiet_val (v := .bool false) (fun w' hw => ?_) (hK _ ?_))
      · clear x0 x1 hK K
        go_simp
      clear hK K
      simp only [Act.put, List.setIfInBounds_toArray, List.set_cons_succ, List.set_cons_zero]
      refine BigFrame.wpQuiet_want (by rfl) (fun K hK => quiet_val (v := .bool false) (fun w' hw => ?_) (hK _ ?_))
      · clear x0 x1 hK K
        go_simp
      clear hK K
      simp only [Act.put, List.setIfInBounds_toArray, List.set_cons_succ, List.set_cons_zero]
      refine BigFrame.wpQuiet_want (by rfl) (fun K hK => quiet_val (v := .agg #[.slice As s.n cs, .slice Ar n cr]) (fun w' hw => ?_) (hK _ ?_))
      · have e0 := kc hw x0; have e1 := kc hw x1; clear x0 x1 hK K
        go_simp
      clear hK K
      simp only [Act.put, List.setIfInBounds_toArray, List.set_cons_succ, List.set_cons_zero]
      refine BigFrame.wpQuiet_want (by rfl) (fun K hK => quiet_val (v := .slice Ac c.n cc) (fun w' hw => ?_) (hK _ ?_))
      · clear x0 x1 hK K
        go_simp
      clear hK K
      simp only [Act.put, List.setIfInBounds_toArray, List.set_cons_succ, List.set_cons_zero]
      refine BigFrame.wpQuiet_want (by rfl) (fun K hK => quiet_enter (v := .bool true) (f := 15) (args := #[.agg #[.slice As s.n cs, .slice Ar n cr], .slice Ac c.n cc]) (fun w' hw => ?_) (fun w' hw => ?_) (hK _ ?_))
      · go_simp
      · refine (implCells_any s c n q As Ar Ac cs cr cc _ p1 p2 p3 p4.out (HM.out.later hw).rs (HM.out.later hw).rr (HC.out.later hw)).mono ?_
        rintro e w8 ⟨rfl, hb⟩
        exact ⟨by rw [HCV.out], bl_trans hw hb⟩
      clear hK K
      simp only [Act.put, List.setIfInBounds_toArray, List.set_cons_succ, List.set_cons_zero]
      refine BigFrame.wpQuiet_want (by rfl) (fun K hK => quiet_val (v := .agg #[.slice As s.n cs, .slice Ar n cr]) (fun w' hw => ?_) (hK _ ?_))
      · have e0 := kc hw x0; have e1 := kc hw x1; clear x0 x1 hK K
        go_simp
      clear hK K
      simp only [Act.put, List.setIfInBounds_toArray, List.set_cons_succ, List.set_cons_zero]
      refine BigFrame.wpQuiet_want (by rfl) (fun K hK => quiet_val (v := .slice Ac c.n cc) (fun w' hw => ?_) (hK _ ?_))
      · clear x0 x1 hK K
        go_simp
      clear hK K
      simp only [Act.put, List.setIfInBounds_toArray, List.set_cons_succ, List.set_cons_zero]
      refine BigFrame.wpQuiet_want (by rfl) (fun K hK => quiet_enter (v := .bool true) (f := 16) (args := #[.agg #[.slice As s.n cs, .slice Ar n cr], .slice Ac c.n cc]) (fun w' hw => ?_) (fun w' hw => ?_) (hK _ ?_))
      · go_simp
      · refine (specCells_any s c n q As Ar Ac cs cr cc _ p1 p2 p3 p4.out (HM.out.later hw).rs (HM.out.later hw).rr (HC.out.later hw)).mono ?_
        rintro e w8 ⟨rfl, hb⟩
        exact ⟨by rw [HCV.out], bl_trans hw hb⟩
      clear hK K
      simp only [Act.put, List.setIfInBounds_toArray, List.set_cons_succ, List.set_cons_zero]
      refine BigFrame.wpQuiet_want (by rfl) (fun K hK => quiet_val (v := .bool false) (fun w' hw => ?_) (hK _ ?_))
      · clear x0 x1 hK K
        go_simp
      clear hK K
      simp only [Act.put, List.setIfInBounds_toArray, List.set_cons_succ, List.set_cons_zero]
      refine BigFrame.wpQuiet_want (by rfl) (fun K hK => quiet_val (v := .bool false) (fun w' hw => ?_) (hK _ ?_))
      · clear x0 x1 hK K
        go_simp
      clear hK K
      simp only [Act.put, List.setIfInBounds_toArray, List.set_cons_succ, List.set_cons_zero]
      refine BigFrame.wpQuiet_want (by rfl) (fun K hK => quiet_val (v := .bool false) (fun w' hw => ?_) (hK _ ?_))
      · clear x0 x1 hK K
        go_simp
      clear hK K
      simp only [Act.put, List.setIfInBounds_toArray, List.set_cons_succ, List.set_cons_zero]
      refine BigFrame.wpQuiet_want (by rfl) (fun K hK => quiet_val (v := .agg #[.slice As s.n cs, .slice Ar n cr]) (fun w' hw => ?_) (hK _ ?_))
      · have e0 := kc hw x0; have e1 := kc hw x1; clear x0 x1 hK K
        go_simp
      clear hK K
      simp only [Act.put, List.setIfInBounds_toArray, List.set_cons_succ, List.set_cons_zero]
      refine BigFrame.wpQuiet_want (by rfl) (fun K hK => quiet_val (v := .slice Ac c.n cc) (fun w' hw => ?_) (hK _ ?_))
      · clear x0 x1 hK K
        go_simp
      clear hK K
      simp only [Act.put, List.setIfInBounds_toArray, List.set_cons_succ, List.set_cons_zero]
      refine BigFrame.wpQuiet_want (by rfl) (fun K hK => quiet_enter (v := .bool true) (f := 15) (args := #[.agg #[.slice As s.n cs, .slice Ar n cr], .slice Ac c.n cc]) (fun w' hw => ?_) (fun w' hw => ?_) (hK _ ?_))
      · go_simp
      · refine (implCells_any s c n q As Ar Ac cs cr cc _ p1 p2 p3 p4.out (HM.out.later hw).rs (HM.out.later hw).rr (HC.out.later hw)).mono ?_
        rintro e w8 ⟨rfl, hb⟩
        exact ⟨by rw [HCV.out], bl_trans hw hb⟩
      clear hK K
      simp only [Act.put, List.setIfInBounds_toArray, List.set_cons_succ, List.set_cons_zero]
      refine BigFrame.wpQuiet_want (by rfl) (fun K hK => quiet_val (v := .bool false) (fun w' hw => ?_) (hK _ ?_))
      · clear x0 x1 hK K
        go_simp
      clear hK K
      simp only [Act.put, List.setIfInBounds_toArray, List.set_cons_succ, List.set_cons_zero]
      refine BigFrame.wpQuiet_want (by rfl) (fun K hK => quiet_val (v := .bool false) (fun w' hw => ?_) (hK _ ?_))
      · clear x0 x1 hK K
        go_simp
      clear hK K
      simp only [Act.put, List.setIfInBounds_toArray, List.set_cons_succ, List.set_cons_zero]
      refine wpQuiet_nil ?_
      intro w4 hw9
      have HB' := Lib.hid (bl_trans HB.out hw9)
      have HM' := Lib.hid (HM.out.later hw9)
      have HC' := Lib.hid (HC.out.later hw9)
      replace x0 := kc hw9 x0
      replace x1 := kc hw9 x1
      clear hw9 HB HM HC
      have HB := HB'
      clear HB'
      have HM := HM'
      clear HM'
      have HC := HC'
      clear HC'
      go_wp2_with fail
      have HSo := Lib.hid (show prE (fun i => holdB (q i) c.x) n = true from hso)
      clear hso hcv HSM
      go_loopw [6, 7] (fun a j wr => ∃ i : Nat, i ≤ n ∧ j = .int .i64 i ∧ a = .bool (prE (fun i => holdB (q i) c.x) i) ∧ Below w4.heap.size w4 wr) (fun _ j _ => n - (intOf j).toNat)
      case atStart => exact ⟨0, Nat.zero_le _, rfl, rfl, Below.refl _ _⟩
      case round =>
        obtain ⟨i, hi, rfl, rfl, hb⟩ := hrel
        have xr0 := kc hb x0
        have xr1 := kc hb x1
        have HBr := Lib.hid hb
        clear x0 x1 hb
        by_cases hlt : i < n
        · have hltI : (i : Int) < (n : Int) := by omega
          have hiI : (0 : Int) ≤ (i : Int) := by omega
          have HV := Lib.hid (show rhB s n q c (i : Int) = holdB (q i) c.x from by unfold rhB; rw [HCV.out]; simp [hltI])
          cases hp : prE (fun i => holdB (q i) c.x) i with
          | false =>
            have HP := Lib.hid (show prE (fun i => holdB (q i) c.x) (i + 1) = false from by show (prE (fun i => holdB (q i) c.x) i && holdB (q i) c.x) = false; rw [hp]; rfl)
            clear hp
            go_wp2
            go_roundw
            case rel => exact ⟨i + 1, by omega, by go_num, by rw [HP.out], HBr.out⟩
            case measure => simp [intOf]; omega
          | true =>
            have HP := Lib.hid (show prE (fun i => holdB (q i) c.x) (i + 1) = holdB (q i) c.x from by show (prE (fun i => holdB (q i) c.x) i && holdB (q i) c.x) = _; rw [hp]; rfl)
            clear hp
            go_wp2_with fail
            refine (implHolds_any s c n q (i : Int) As Ar Ac cs cr cc _ p1 p2 p3 p4.out (HM.out.later HBr.out).rs (HM.out.later HBr.out).rr (HC.out.later HBr.out)).mono ?_
            rintro e w6 ⟨rfl, hb⟩
            rw [HV.out]
            have HB6 := Lib.hid (bl_trans HBr.out hb)
            clear hb
            go_wp2
            go_roundw
            case rel => exact ⟨i + 1, by omega, by go_num, by rw [HP.out], HB6.out⟩
            case measure => simp [intOf]; omega
        · obtain rfl : i = n := by omega
          rw [HSo.out]
          go_wp2
          go_ret
          exact ⟨rfl, bl_trans HB.out HBr.out⟩

set_option linter.unusedSimpArgs false in
set_option linter.unusedVariables false in
set_option maxRecDepth 100000 in
set_option maxHeartbeats 6400000 in
theorem lawFnSolvesModel_walk (A0 : Option Addr) (n0 cap0 : Nat) (y0 : Nat → Int) (w : World) (hm0 : n0 ≤ maxLen) (hc0 : n0 ≤ cap0) (hr0 : RdY w w.heap.size A0 n0 y0) :
    Calls Try.prog 3 #[.slice A0 n0 cap0] w fun e w' => e = .returned (.bool true) ∧ Below w.heap.size w w' := by
  by_cases h0 : n0 ≤ 1048576
  · exact lawFnSolvesModel_ok A0 n0 cap0 y0 w h0 hc0 hr0
  · unfold maxLen at hm0
    have hi0 : (1048576 : Int) < (n0 : Int) := by omega
    go_enter Try.func3, Try.ntmps3
    go_wp2
    go_ret
    exact ⟨rfl, Below.refl _ _⟩
end Go.Proofs.Ythjcbaccoogloaa
