/- The walk of the law FnConstraintFalse (no claim of its own). Conditions: as each theorem states. -/
import Derived.Test.YtfgmkaajcbmlmaaDrwU
import Derived.BigQuiet
namespace Go.Proofs.Ytfgmkaajcbmlmaa
open Go.ChangeShapes Go.WideShapes Go.ChangeAt Go.RowKit Go.Shelf

set_option maxRecDepth 100000 in
set_option maxHeartbeats 6400000 in
theorem lawFnConstraintFalse_ok (A0 : Option Addr) (n0 cap0 : Nat) (y0 : Nat → Int) (w : World) (h0 : n0 ≤ 1048576) (hc0 : n0 ≤ cap0) (hr0 : RdY w w.heap.size A0 n0 y0) :
    Calls Try.prog 8 #[.slice A0 n0 cap0] w fun e w' => e = .returned (.bool true) ∧ Below w.heap.size w w' := by
  have hm0 : n0 ≤ maxLen := by unfold maxLen; omega
  have hi0 : ¬ (1048576 : Int) < (n0 : Int) := by omega
  go_enter Try.func8, Try.ntmps8
  go_wp2_with fail
  refine (drawFls_any _ _ _ y0 _ hm0 hc0 hr0).mono ?_
  rintro e w1 ⟨Ac, k, capc, bd, c, l, rfl, hk, hrc, hb⟩
  have HB1 := Lib.hid hb
  have Hc1 := Lib.hid hrc.rdAt
  clear hb hrc
  have hkB : k ≤ 1048576 := by omega
  go_wp2_with fail
  have HAl := Lib.hid (bl_alloc (Below.refl w1.heap.size w1) (.cells #[.slice Ac k capc, .int .i64 bd] 25))
  have a0 : (w1.alloc (.cells #[.slice Ac k capc, .int .i64 bd] 25)).cell? ⟨w1.heap.size, 0, none⟩ = some (.slice Ac k capc) := by go_simp
  have a1 : (w1.alloc (.cells #[.slice Ac k capc, .int .i64 bd] 25)).cell? ⟨w1.heap.size, 1, none⟩ = some (.int .i64 bd) := by go_simp
  refine (implFalse_any _ _ _ _ c l _ hkB (Hc1.out.later HAl.out)).mono ?_
  rintro e w2 ⟨rfl, hb1⟩
  have hb := bl_trans HAl.out hb1
  have HB := Lib.hid (bl_trans HB1.out hb)
  have Hc := Lib.hid (Hc1.out.later hb)
  replace a0 := kc hb1 a0
  replace a1 := kc hb1 a1
  clear hb hb1 HB1 Hc1 HAl
  cases hval : validB k c l bd with
  | false =>
    have hfa : falseV k c l bd = false := by unfold falseV; rw [hval]; rfl
    have Hval := Lib.hid hval
    have Hfa := Lib.hid hfa
    rw [hfa]
    clear hval hfa
    go_wp2_with fail
    refine region_class (C := Cls w2) (by kernel_rfl) (by kernel_rfl) (Below.refl w2.heap.size w2).drew ?_
    refine BigFrame.wpQuiet_want (by rfl) (fun K hK => quiet_val (v := .bool false) (fun w' hw => ?_) (hK _ ?_))
    · clear hK K
      go_simp
    clear hK K
    simp only [Act.put, List.setIfInBounds_toArray, List.set_cons_succ, List.set_cons_zero]
    refine BigFrame.wpQuiet_want (by rfl) (fun K hK => quiet_val (v := .agg #[.slice Ac k capc, .int .i64 bd]) (fun w' hw => ?_) (hK _ ?_))
    · have e0 := kc hw a0
      have e1 := kc hw a1
      clear a0 a1 hK K
      go_simp
    clear hK K
    simp only [Act.put, List.setIfInBounds_toArray, List.set_cons_succ, List.set_cons_zero]
    refine BigFrame.wpQuiet_want (by rfl) (fun K hK => quiet_enter (v := .bool false) (f := 30) (args := #[.agg #[.slice Ac k capc, .int .i64 bd]]) (fun w' hw => ?_) (fun w' hw => ?_) (hK _ ?_))
    · go_simp
    · refine (specFalse_any _ _ _ _ c l _ hkB (Hc.out.later hw)).mono ?_
      rintro e w8 ⟨rfl, hb⟩
      exact ⟨by rw [Hfa.out], bl_trans hw hb⟩
    clear hK K
    simp only [Act.put, List.setIfInBounds_toArray, List.set_cons_succ, List.set_cons_zero]
    refine BigFrame.wpQuiet_want (by rfl) (fun K hK => quiet_val (v := .bool false) (fun w' hw => ?_) (hK _ ?_))
    · clear hK K
      go_simp
    clear hK K
    simp only [Act.put, List.setIfInBounds_toArray, List.set_cons_succ, List.set_cons_zero]
    refine BigFrame.wpQuiet_want (by rfl) (fun K hK => quiet_val (v := .bool false) (fun w' hw => ?_) (hK _ ?_))
    · clear hK K
      go_simp
    clear hK K
    simp only [Act.put, List.setIfInBounds_toArray, List.set_cons_succ, List.set_cons_zero]
    refine BigFrame.wpQuiet_want (by rfl) (fun K hK => quiet_val (v := .agg #[.slice Ac k capc, .int .i64 bd]) (fun w' hw => ?_) (hK _ ?_))
    · have e0 := kc hw a0
      have e1 := kc hw a1
      clear a0 a1 hK K
      go_simp
    clear hK K
    simp only [Act.put, List.setIfInBounds_toArray, List.set_cons_succ, List.set_cons_zero]
    refine BigFrame.wpQuiet_want (by rfl) (fun K hK => quiet_enter (v := .int .i64 (totV k c l bd)) (f := 31) (args := #[.agg #[.slice Ac k capc, .int .i64 bd]]) (fun w' hw => ?_) (fun w' hw => ?_) (hK _ ?_))
    · go_simp
    · refine (implTotal_any _ _ _ _ c l _ hkB (Hc.out.later hw)).mono ?_
      rintro e w8 ⟨rfl, hb⟩
      exact ⟨rfl, bl_trans hw hb⟩
    clear hK K
    simp only [Act.put, List.setIfInBounds_toArray, List.set_cons_succ, List.set_cons_zero]
    refine BigFrame.wpQuiet_want (by rfl) (fun K hK => quiet_val (v := .agg #[.slice Ac k capc, .int .i64 bd]) (fun w' hw => ?_) (hK _ ?_))
    · have e0 := kc hw a0
      have e1 := kc hw a1
      clear a0 a1 hK K
      go_simp
    clear hK K
    simp only [Act.put, List.setIfInBounds_toArray, List.set_cons_succ, List.set_cons_zero]
    refine BigFrame.wpQuiet_want (by rfl) (fun K hK => quiet_enter (v := .int .i64 (totV k c l bd)) (f := 32) (args := #[.agg #[.slice Ac k capc, .int .i64 bd]]) (fun w' hw => ?_) (fun w' hw => ?_) (hK _ ?_))
    · go_simp
    · refine (specTotal_any _ _ _ _ c l _ hkB (Hc.out.later hw)).mono ?_
      rintro e w8 ⟨rfl, hb⟩
      exact ⟨rfl, bl_trans hw hb⟩
    clear hK K
    simp only [Act.put, List.setIfInBounds_toArray, List.set_cons_succ, List.set_cons_zero]
    refine BigFrame.wpQuiet_want (by rfl) (fun K hK => quiet_val (v := .bool false) (fun w' hw => ?_) (hK _ ?_))
    · clear hK K
      go_simp
    clear hK K
    simp only [Act.put, List.setIfInBounds_toArray, List.set_cons_succ, List.set_cons_zero]
    refine BigFrame.wpQuiet_want (by rfl) (fun K hK => quiet_val (v := .bool false) (fun w' hw => ?_) (hK _ ?_))
    · clear hK K
      go_simp
    clear hK K
    simp only [Act.put, List.setIfInBounds_toArray, List.set_cons_succ, List.set_cons_zero]
    refine BigFrame.wpQuiet_want (by rfl) (fun K hK => quiet_val (v := .bool false) (fun w' hw => ?_) (hK _ ?_))
    · clear hK K
      go_simp
    clear hK K
    simp only [Act.put, List.setIfInBounds_toArray, List.set_cons_succ, List.set_cons_zero]
    refine BigFrame.wpQuiet_want (by rfl) (fun K hK => quiet_val (v := .agg #[.slice Ac k capc, .int .i64 bd]) (fun w' hw => ?_) (hK _ ?_))
    · have e0 := kc hw a0
      have e1 := kc hw a1
      clear a0 a1 hK K
      go_simp
    clear hK K
    simp only [Act.put, List.setIfInBounds_toArray, List.set_cons_succ, List.set_cons_zero]
    refine BigFrame.wpQuiet_want (by rfl) (fun K hK => quiet_enter (v := .bool false) (f := 26) (args := #[.agg #[.slice Ac k capc, .int .i64 bd]]) (fun w' hw => ?_) (fun w' hw => ?_) (hK _ ?_))
    · go_simp
    · refine (implValid_any _ _ _ _ c l _ hkB (Hc.out.later hw)).mono ?_
      rintro e w8 ⟨rfl, hb⟩
      exact ⟨by rw [Hval.out], bl_trans hw hb⟩
    clear hK K
    simp only [Act.put, List.setIfInBounds_toArray, List.set_cons_succ, List.set_cons_zero]
    refine BigFrame.wpQuiet_want (by rfl) (fun K hK => quiet_val (v := .bool true) (fun w' hw => ?_) (hK _ ?_))
    · clear hK K
      go_simp
    clear hK K
    simp only [Act.put, List.setIfInBounds_toArray, List.set_cons_succ, List.set_cons_zero]
    refine BigFrame.wpQuiet_want (by rfl) (fun K hK => quiet_val (v := .bool true) (fun w' hw => ?_) (hK _ ?_))
    · clear hK K
      go_simp
    clear hK K
    simp only [Act.put, List.setIfInBounds_toArray, List.set_cons_succ, List.set_cons_zero]
    refine wpQuiet_nil ?_
    intro w5 hw5
    have HB5 := Lib.hid (bl_trans HB.out hw5)
    have Hc5 := Lib.hid (Hc.out.later hw5)
    replace a0 := kc hw5 a0
    replace a1 := kc hw5 a1
    clear hw5 HB Hc
    go_wp2_with fail
    have Hc := Hc5
    clear Hc5
    refine region_class (C := Cls w5) (by kernel_rfl) (by kernel_rfl) (Below.refl w5.heap.size w5).drew ?_
    refine BigFrame.wpQuiet_want (by rfl) (fun K hK => quiet_val (v := .bool false) (fun w' hw => ?_) (hK _ ?_))
    · clear hK K
      go_simp
    clear hK K
    simp only [Act.put, List.setIfInBounds_toArray, List.set_cons_succ, List.set_cons_zero]
    refine BigFrame.wpQuiet_want (by rfl) (fun K hK => quiet_val (v := .agg #[.slice Ac k capc, .int .i64 bd]) (fun w' hw => ?_) (hK _ ?_))
    · have e0 := kc hw a0
      have e1 := kc hw a1
      clear a0 a1 hK K
      go_simp
    clear hK K
    simp only [Act.put, List.setIfInBounds_toArray, List.set_cons_succ, List.set_cons_zero]
    refine BigFrame.wpQuiet_want (by rfl) (fun K hK => quiet_enter (v := .bool false) (f := 30) (args := #[.agg #[.slice Ac k capc, .int .i64 bd]]) (fun w' hw => ?_) (fun w' hw => ?_) (hK _ ?_))
    · go_simp
    · refine (specFalse_any _ _ _ _ c l _ hkB (Hc.out.later hw)).mono ?_
      rintro e w8 ⟨rfl, hb⟩
      exact ⟨by rw [Hfa.out], bl_trans hw hb⟩
    clear hK K
    simp only [Act.put, List.setIfInBounds_toArray, List.set_cons_succ, List.set_cons_zero]
    refine BigFrame.wpQuiet_want (by rfl) (fun K hK => quiet_val (v := .bool true) (fun w' hw => ?_) (hK _ ?_))
    · clear hK K
      go_simp
    clear hK K
    simp only [Act.put, List.setIfInBounds_toArray, List.set_cons_succ, List.set_cons_zero]
    refine BigFrame.wpQuiet_want (by rfl) (fun K hK => quiet_val (v := .bool true) (fun w' hw => ?_) (hK _ ?_))
    · clear hK K
      go_simp
    clear hK K
    simp only [Act.put, List.setIfInBounds_toArray, List.set_cons_succ, List.set_cons_zero]
    refine BigFrame.wpQuiet_want (by rfl) (fun K hK => quiet_val (v := .agg #[.slice Ac k capc, .int .i64 bd]) (fun w' hw => ?_) (hK _ ?_))
    · have e0 := kc hw a0
      have e1 := kc hw a1
      clear a0 a1 hK K
      go_simp
    clear hK K
    simp only [Act.put, List.setIfInBounds_toArray, List.set_cons_succ, List.set_cons_zero]
    refine BigFrame.wpQuiet_want (by rfl) (fun K hK => quiet_enter (v := .int .i64 (totV k c l bd)) (f := 31) (args := #[.agg #[.slice Ac k capc, .int .i64 bd]]) (fun w' hw => ?_) (fun w' hw => ?_) (hK _ ?_))
    · go_simp
    · refine (implTotal_any _ _ _ _ c l _ hkB (Hc.out.later hw)).mono ?_
      rintro e w8 ⟨rfl, hb⟩
      exact ⟨rfl, bl_trans hw hb⟩
    clear hK K
    simp only [Act.put, List.setIfInBounds_toArray, List.set_cons_succ, List.set_cons_zero]
    refine BigFrame.wpQuiet_want (by rfl) (fun K hK => quiet_val (v := .agg #[.slice Ac k capc, .int .i64 bd]) (fun w' hw => ?_) (hK _ ?_))
    · have e0 := kc hw a0
      have e1 := kc hw a1
      clear a0 a1 hK K
      go_simp
    clear hK K
    simp only [Act.put, List.setIfInBounds_toArray, List.set_cons_succ, List.set_cons_zero]
    refine BigFrame.wpQuiet_want (by rfl) (fun K hK => quiet_enter (v := .int .i64 (totV k c l bd)) (f := 32) (args := #[.agg #[.slice Ac k capc, .int .i64 bd]]) (fun w' hw => ?_) (fun w' hw => ?_) (hK _ ?_))
    · go_simp
    · refine (specTotal_any _ _ _ _ c l _ hkB (Hc.out.later hw)).mono ?_
      rintro e w8 ⟨rfl, hb⟩
      exact ⟨rfl, bl_trans hw hb⟩
    clear hK K
    simp only [Act.put, List.setIfInBounds_toArray, List.set_cons_succ, List.set_cons_zero]
    refine BigFrame.wpQuiet_want (by rfl) (fun K hK => quiet_val (v := .bool true) (fun w' hw => ?_) (hK _ ?_))
    · clear hK K
      go_simp
    clear hK K
    simp only [Act.put, List.setIfInBounds_toArray, List.set_cons_succ, List.set_cons_zero]
    refine BigFrame.wpQuiet_want (by rfl) (fun K hK => quiet_val (v := .bool true) (fun w' hw => ?_) (hK _ ?_))
    · clear hK K
      go_simp
    clear hK K
    simp only [Act.put, List.setIfInBounds_toArray, List.set_cons_succ, List.set_cons_zero]
    refine BigFrame.wpQuiet_want (by rfl) (fun K hK => quiet_val (v := .bool true) (fun w' hw => ?_) (hK _ ?_))
    · clear hK K
      go_simp
    clear hK K
    simp only [Act.put, List.setIfInBounds_toArray, List.set_cons_succ, List.set_cons_zero]
    refine wpQuiet_nil ?_
    intro w6 hw6
    have HB6 := Lib.hid (bl_trans HB5.out hw6)
    clear hw6
    go_wp2
    go_ret
    exact ⟨rfl, HB6.out⟩
  | true =>
    have Hval := Lib.hid hval
    clear hval
    cases hfa : falseV k c l bd with
    | true =>
      have Hfa := Lib.hid hfa
      clear hfa
      go_wp2_with fail
      refine region_class (C := Cls w2) (by kernel_rfl) (by kernel_rfl) (Below.refl w2.heap.size w2).drew ?_
      refine BigFrame.wpQuiet_want (by rfl) (fun K hK => quiet_val (v := .bool true) (fun w' hw => ?_) (hK _ ?_))
      · clear hK K
        go_simp
      clear hK K
      simp only [Act.put, List.setIfInBounds_toArray, List.set_cons_succ, List.set_cons_zero]
      refine BigFrame.wpQuiet_want (by rfl) (fun K hK => quiet_val (v := .agg #[.slice Ac k capc, .int .i64 bd]) (fun w' hw => ?_) (hK _ ?_))
      · have e0 := kc hw a0
        have e1 := kc hw a1
        clear a0 a1 hK K
        go_simp
      clear hK K
      simp only [Act.put, List.setIfInBounds_toArray, List.set_cons_succ, List.set_cons_zero]
      refine BigFrame.wpQuiet_want (by rfl) (fun K hK => quiet_enter (v := .bool true) (f := 30) (args := #[.agg #[.slice Ac k capc, .int .i64 bd]]) (fun w' hw => ?_) (fun w' hw => ?_) (hK _ ?_))
      · go_simp
      · refine (specFalse_any _ _ _ _ c l _ hkB (Hc.out.later hw)).mono ?_
        rintro e w8 ⟨rfl, hb⟩
        exact ⟨by rw [Hfa.out], bl_trans hw hb⟩
      clear hK K
      simp only [Act.put, List.setIfInBounds_toArray, List.set_cons_succ, List.set_cons_zero]
      refine BigFrame.wpQuiet_want (by rfl) (fun K hK => quiet_val (v := .bool false) (fun w' hw => ?_) (hK _ ?_))
      · clear hK K
        go_simp
      clear hK K
      simp only [Act.put, List.setIfInBounds_toArray, List.set_cons_succ, List.set_cons_zero]
      refine BigFrame.wpQuiet_want (by rfl) (fun K hK => quiet_val (v := .bool false) (fun w' hw => ?_) (hK _ ?_))
      · clear hK K
        go_simp
      clear hK K
      simp only [Act.put, List.setIfInBounds_toArray, List.set_cons_succ, List.set_cons_zero]
      refine BigFrame.wpQuiet_want (by rfl) (fun K hK => quiet_val (v := .agg #[.slice Ac k capc, .int .i64 bd]) (fun w' hw => ?_) (hK _ ?_))
      · have e0 := kc hw a0
        have e1 := kc hw a1
        clear a0 a1 hK K
        go_simp
      clear hK K
      simp only [Act.put, List.setIfInBounds_toArray, List.set_cons_succ, List.set_cons_zero]
      refine BigFrame.wpQuiet_want (by rfl) (fun K hK => quiet_enter (v := .int .i64 (totV k c l bd)) (f := 31) (args := #[.agg #[.slice Ac k capc, .int .i64 bd]]) (fun w' hw => ?_) (fun w' hw => ?_) (hK _ ?_))
      · go_simp
      · refine (implTotal_any _ _ _ _ c l _ hkB (Hc.out.later hw)).mono ?_
        rintro e w8 ⟨rfl, hb⟩
        exact ⟨rfl, bl_trans hw hb⟩
      clear hK K
      simp only [Act.put, List.setIfInBounds_toArray, List.set_cons_succ, List.set_cons_zero]
      refine BigFrame.wpQuiet_want (by rfl) (fun K hK => quiet_val (v := .agg #[.slice Ac k capc, .int .i64 bd]) (fun w' hw => ?_) (hK _ ?_))
      · have e0 := kc hw a0
        have e1 := kc hw a1
        clear a0 a1 hK K
        go_simp
      clear hK K
      simp only [Act.put, List.setIfInBounds_toArray, List.set_cons_succ, List.set_cons_zero]
      refine BigFrame.wpQuiet_want (by rfl) (fun K hK => quiet_enter (v := .int .i64 (totV k c l bd)) (f := 32) (args := #[.agg #[.slice Ac k capc, .int .i64 bd]]) (fun w' hw => ?_) (fun w' hw => ?_) (hK _ ?_))
      · go_simp
      · refine (specTotal_any _ _ _ _ c l _ hkB (Hc.out.later hw)).mono ?_
        rintro e w8 ⟨rfl, hb⟩
        exact ⟨rfl, bl_trans hw hb⟩
      clear hK K
      simp only [Act.put, List.setIfInBounds_toArray, List.set_cons_succ, List.set_cons_zero]
      refine BigFrame.wpQuiet_want (by rfl) (fun K hK => quiet_val (v := .bool false) (fun w' hw => ?_) (hK _ ?_))
      · clear hK K
        go_simp
      clear hK K
      simp only [Act.put, List.setIfInBounds_toArray, List.set_cons_succ, List.set_cons_zero]
      refine BigFrame.wpQuiet_want (by rfl) (fun K hK => quiet_val (v := .bool false) (fun w' hw => ?_) (hK _ ?_))
      · clear hK K
        go_simp
      clear hK K
      simp only [Act.put, List.setIfInBounds_toArray, List.set_cons_succ, List.set_cons_zero]
      refine BigFrame.wpQuiet_want (by rfl) (fun K hK => quiet_val (v := .bool false) (fun w' hw => ?_) (hK _ ?_))
      · clear hK K
        go_simp
      clear hK K
      simp only [Act.put, List.setIfInBounds_toArray, List.set_cons_succ, List.set_cons_zero]
      refine BigFrame.wpQuiet_want (by rfl) (fun K hK => quiet_val (v := .agg #[.slice Ac k capc, .int .i64 bd]) (fun w' hw => ?_) (hK _ ?_))
      · have e0 := kc hw a0
        have e1 := kc hw a1
        clear a0 a1 hK K
        go_simp
      clear hK K
      simp only [Act.put, List.setIfInBounds_toArray, List.set_cons_succ, List.set_cons_zero]
      refine BigFrame.wpQuiet_want (by rfl) (fun K hK => quiet_enter (v := .bool true) (f := 26) (args := #[.agg #[.slice Ac k capc, .int .i64 bd]]) (fun w' hw => ?_) (fun w' hw => ?_) (hK _ ?_))
      · go_simp
      · refine (implValid_any _ _ _ _ c l _ hkB (Hc.out.later hw)).mono ?_
        rintro e w8 ⟨rfl, hb⟩
        exact ⟨by rw [Hval.out], bl_trans hw hb⟩
      clear hK K
      simp only [Act.put, List.setIfInBounds_toArray, List.set_cons_succ, List.set_cons_zero]
      refine BigFrame.wpQuiet_want (by rfl) (fun K hK => quiet_val (v := .bool false) (fun w' hw => ?_) (hK _ ?_))
      · clear hK K
        go_simp
      clear hK K
      simp only [Act.put, List.setIfInBounds_toArray, List.set_cons_succ, List.set_cons_zero]
      refine BigFrame.wpQuiet_want (by rfl) (fun K hK => quiet_val (v := .bool false) (fun w' hw => ?_) (hK _ ?_))
      · clear hK K
        go_simp
      clear hK K
      simp only [Act.put, List.setIfInBounds_toArray, List.set_cons_succ, List.set_cons_zero]
      refine wpQuiet_nil ?_
      intro w5 hw5
      have HB5 := Lib.hid (bl_trans HB.out hw5)
      have Hc5 := Lib.hid (Hc.out.later hw5)
      replace a0 := kc hw5 a0
      replace a1 := kc hw5 a1
      clear hw5 HB Hc
      have zr : w1.heap.size < w5.heap.size := World.block_lt_of_cell? w5 ⟨w1.heap.size, 0, none⟩ a0
      have HE := Lib.hid (false_eval hkB Hval.out)
      rw [Hfa.out] at HE
      obtain ⟨i0, hi, hz0, hz1, hz2⟩ := info_parts Try.infoBool
      have hmk := fun W => run_make (P := Try.prog) W 29 4 i0 _ Try.underlying29 hi hz0 .i64 .i64 (12 : Int) 12 (by omega) (by omega) (by rw [hz2]; omega) (by omega)
      rw [hz1] at hmk
      clear hi hz0 hz1 hz2
      go_wp2
      go_loopw [6] (fun i wr => ∃ j : Nat, j ≤ k ∧ i = .int .i64 j ∧ OwnB wr w5.heap.size 12 12 (uP l j) ∧ Below w5.heap.size w5 wr) (fun i _ => k - (intOf i).toNat)
      case atStart => exact ⟨0, Nat.zero_le _, rfl, made12 l w5, bl_alloc (Below.refl _ _) _⟩
      case round =>
        obtain ⟨j, hj, rfl, hown, hb⟩ := hrel
        have Hown := Lib.hid hown
        have HB := Lib.hid hb
        have Hcr := Lib.hid (Hc5.out.later hb)
        replace a0 := kc hb a0
        replace a1 := kc hb a1
        have hne : ¬ w1.heap.size = w5.heap.size := by omega
        have hne2 : ¬ w5.heap.size = w1.heap.size := by omega
        by_cases hlt : j < k
        · obtain ⟨hl0, hl1, hl2⟩ := litB_iff.1 (litAt Hval.out hlt)
          obtain ⟨bt, offt, rfl, hbt, hct⟩ := Hcr.out (by omega)
          obtain ⟨hct1, hct2⟩ := hct j hlt
          clear hct hmk hbt hown hb
          by_cases hp : 0 < l j
          · obtain ⟨ix, hix, hlit⟩ : ∃ ix : Nat, ix < 12 ∧ l j = (ix : Int) + 1 := ⟨(l j - 1).toNat, by omega, by omega⟩
            obtain ⟨u0, hu0⟩ := Hown.out.cell hix
            have hf0 := Hown.out.frozen ix
            have HU := Lib.hid (uP_pos hlit)
            rw [hlit] at hct2
            clear hlit hp hl0 hl1 hl2
            go_wp2
            go_roundw
            case rel => exact ⟨j + 1, by omega, by go_num, by rw [HU.out]; exact Hown.out.upd hix true, HB.out.setCell (Nat.le_refl _) _⟩
            case measure => simp [intOf]; omega
          · have HU := Lib.hid (uP_no hp)
            go_wp2
            go_roundw
            case rel => exact ⟨j + 1, by omega, by go_num, by rw [HU.out]; exact Hown.out, HB.out⟩
            case measure => simp [intOf]; omega
        · have e : j = k := by omega
          subst e
          clear hmk hown hb
          go_wp2_with fail
          refine (implEval_any _ _ _ _ _ _ _ c l (uP l j) _ hkB Hcr.out Hown.out.rdAt).mono ?_
          rintro e w9 ⟨rfl, hb9⟩
          have HB9 := Lib.hid (bl_trans (bl_trans HB5.out HB.out) hb9)
          clear hb9
          rw [HE.out]
          go_wp2
          go_ret
          exact ⟨rfl, HB9.out⟩
    | false =>
      have Hfa := Lib.hid hfa
      clear hfa
      go_wp2_with fail
      refine region_class (C := Cls w2) (by kernel_rfl) (by kernel_rfl) (Below.refl w2.heap.size w2).drew ?_
      refine BigFrame.wpQuiet_want (by rfl) (fun K hK => quiet_val (v := .bool false) (fun w' hw => ?_) (hK _ ?_))
      · clear hK K
        go_simp
      clear hK K
      simp only [Act.put, List.setIfInBounds_toArray, List.set_cons_succ, List.set_cons_zero]
      refine BigFrame.wpQuiet_want (by rfl) (fun K hK => quiet_val (v := .agg #[.slice Ac k capc, .int .i64 bd]) (fun w' hw => ?_) (hK _ ?_))
      · have e0 := kc hw a0
        have e1 := kc hw a1
        clear a0 a1 hK K
        go_simp
      clear hK K
      simp only [Act.put, List.setIfInBounds_toArray, List.set_cons_succ, List.set_cons_zero]
      refine BigFrame.wpQuiet_want (by rfl) (fun K hK => quiet_enter (v := .bool false) (f := 30) (args := #[.agg #[.slice Ac k capc, .int .i64 bd]]) (fun w' hw => ?_) (fun w' hw => ?_) (hK _ ?_))
      · go_simp
      · refine (specFalse_any _ _ _ _ c l _ hkB (Hc.out.later hw)).mono ?_
        rintro e w8 ⟨rfl, hb⟩
        exact ⟨by rw [Hfa.out], bl_trans hw hb⟩
      clear hK K
      simp only [Act.put, List.setIfInBounds_toArray, List.set_cons_succ, List.set_cons_zero]
      refine BigFrame.wpQuiet_want (by rfl) (fun K hK => quiet_val (v := .bool false) (fun w' hw => ?_) (hK _ ?_))
      · clear hK K
        go_simp
      clear hK K
      simp only [Act.put, List.setIfInBounds_toArray, List.set_cons_succ, List.set_cons_zero]
      refine BigFrame.wpQuiet_want (by rfl) (fun K hK => quiet_val (v := .bool false) (fun w' hw => ?_) (hK _ ?_))
      · clear hK K
        go_simp
      clear hK K
      simp only [Act.put, List.setIfInBounds_toArray, List.set_cons_succ, List.set_cons_zero]
      refine BigFrame.wpQuiet_want (by rfl) (fun K hK => quiet_val (v := .agg #[.slice Ac k capc, .int .i64 bd]) (fun w' hw => ?_) (hK _ ?_))
      · have e0 := kc hw a0
        have e1 := kc hw a1
        clear a0 a1 hK K
        go_simp
      clear hK K
      simp only [Act.put, List.setIfInBounds_toArray, List.set_cons_succ, List.set_cons_zero]
      refine BigFrame.wpQuiet_want (by rfl) (fun K hK => quiet_enter (v := .int .i64 (totV k c l bd)) (f := 31) (args := #[.agg #[.slice Ac k capc, .int .i64 bd]]) (fun w' hw => ?_) (fun w' hw => ?_) (hK _ ?_))
      · go_simp
      · refine (implTotal_any _ _ _ _ c l _ hkB (Hc.out.later hw)).mono ?_
        rintro e w8 ⟨rfl, hb⟩
        exact ⟨rfl, bl_trans hw hb⟩
      clear hK K
      simp only [Act.put, List.setIfInBounds_toArray, List.set_cons_succ, List.set_cons_zero]
      refine BigFrame.wpQuiet_want (by rfl) (fun K hK => quiet_val (v := .agg #[.slice Ac k capc, .int .i64 bd]) (fun w' hw => ?_) (hK _ ?_))
      · have e0 := kc hw a0
        have e1 := kc hw a1
        clear a0 a1 hK K
        go_simp
      clear hK K
      simp only [Act.put, List.setIfInBounds_toArray, List.set_cons_succ, List.set_cons_zero]
      refine BigFrame.wpQuiet_want (by rfl) (fun K hK => quiet_enter (v := .int .i64 (totV k c l bd)) (f := 32) (args := #[.agg #[.slice Ac k capc, .int .i64 bd]]) (fun w' hw => ?_) (fun w' hw => ?_) (hK _ ?_))
      · go_simp
      · refine (specTotal_any _ _ _ _ c l _ hkB (Hc.out.later hw)).mono ?_
        rintro e w8 ⟨rfl, hb⟩
        exact ⟨rfl, bl_trans hw hb⟩
      clear hK K
      simp only [Act.put, List.setIfInBounds_toArray, List.set_cons_succ, List.set_cons_zero]
      refine BigFrame.wpQuiet_want (by rfl) (fun K hK => quiet_val (v := .bool false) (fun w' hw => ?_) (hK _ ?_))
      · clear hK K
        go_simp
      clear hK K
      simp only [Act.put, List.setIfInBounds_toArray, List.set_cons_succ, List.set_cons_zero]
      refine BigFrame.wpQuiet_want (by rfl) (fun K hK => quiet_val (v := .bool false) (fun w' hw => ?_) (hK _ ?_))
      · clear hK K
        go_simp
      clear hK K
      simp only [Act.put, List.setIfInBounds_toArray, List.set_cons_succ, List.set_cons_zero]
      refine BigFrame.wpQuiet_want (by rfl) (fun K hK => quiet_val (v := .bool false) (fun w' hw => ?_) (hK _ ?_))
      · clear hK K
        go_simp
      clear hK K
      simp only [Act.put, List.setIfInBounds_toArray, List.set_cons_succ, List.set_cons_zero]
      refine BigFrame.wpQuiet_want (by rfl) (fun K hK => quiet_val (v := .agg #[.slice Ac k capc, .int .i64 bd]) (fun w' hw => ?_) (hK _ ?_))
      · have e0 := kc hw a0
        have e1 := kc hw a1
        clear a0 a1 hK K
        go_simp
      clear hK K
      simp only [Act.put, List.setIfInBounds_toArray, List.set_cons_succ, List.set_cons_zero]
      refine BigFrame.wpQuiet_want (by rfl) (fun K hK => quiet_enter (v := .bool true) (f := 26) (args := #[.agg #[.slice Ac k capc, .int .i64 bd]]) (fun w' hw => ?_) (fun w' hw => ?_) (hK _ ?_))
      · go_simp
      · refine (implValid_any _ _ _ _ c l _ hkB (Hc.out.later hw)).mono ?_
        rintro e w8 ⟨rfl, hb⟩
        exact ⟨by rw [Hval.out], bl_trans hw hb⟩
      clear hK K
      simp only [Act.put, List.setIfInBounds_toArray, List.set_cons_succ, List.set_cons_zero]
      refine BigFrame.wpQuiet_want (by rfl) (fun K hK => quiet_val (v := .bool false) (fun w' hw => ?_) (hK _ ?_))
      · clear hK K
        go_simp
      clear hK K
      simp only [Act.put, List.setIfInBounds_toArray, List.set_cons_succ, List.set_cons_zero]
      refine BigFrame.wpQuiet_want (by rfl) (fun K hK => quiet_val (v := .bool false) (fun w' hw => ?_) (hK _ ?_))
      · clear hK K
        go_simp
      clear hK K
      simp only [Act.put, List.setIfInBounds_toArray, List.set_cons_succ, List.set_cons_zero]
      refine wpQuiet_nil ?_
      intro w5 hw5
      have HB5 := Lib.hid (bl_trans HB.out hw5)
      have Hc5 := Lib.hid (Hc.out.later hw5)
      replace a0 := kc hw5 a0
      replace a1 := kc hw5 a1
      clear hw5 HB Hc
      have zr : w1.heap.size < w5.heap.size := World.block_lt_of_cell? w5 ⟨w1.heap.size, 0, none⟩ a0
      have HE := Lib.hid (false_eval hkB Hval.out)
      rw [Hfa.out] at HE
      obtain ⟨i0, hi, hz0, hz1, hz2⟩ := info_parts Try.infoBool
      have hmk := fun W => run_make (P := Try.prog) W 29 4 i0 _ Try.underlying29 hi hz0 .i64 .i64 (12 : Int) 12 (by omega) (by omega) (by rw [hz2]; omega) (by omega)
      rw [hz1] at hmk
      clear hi hz0 hz1 hz2
      go_wp2
      go_loopw [6] (fun i wr => ∃ j : Nat, j ≤ k ∧ i = .int .i64 j ∧ OwnB wr w5.heap.size 12 12 (uP l j) ∧ Below w5.heap.size w5 wr) (fun i _ => k - (intOf i).toNat)
      case atStart => exact ⟨0, Nat.zero_le _, rfl, made12 l w5, bl_alloc (Below.refl _ _) _⟩
      case round =>
        obtain ⟨j, hj, rfl, hown, hb⟩ := hrel
        have Hown := Lib.hid hown
        have HB := Lib.hid hb
        have Hcr := Lib.hid (Hc5.out.later hb)
        replace a0 := kc hb a0
        replace a1 := kc hb a1
        have hne : ¬ w1.heap.size = w5.heap.size := by omega
        have hne2 : ¬ w5.heap.size = w1.heap.size := by omega
        by_cases hlt : j < k
        · obtain ⟨hl0, hl1, hl2⟩ := litB_iff.1 (litAt Hval.out hlt)
          obtain ⟨bt, offt, rfl, hbt, hct⟩ := Hcr.out (by omega)
          obtain ⟨hct1, hct2⟩ := hct j hlt
          clear hct hmk hbt hown hb
          by_cases hp : 0 < l j
          · obtain ⟨ix, hix, hlit⟩ : ∃ ix : Nat, ix < 12 ∧ l j = (ix : Int) + 1 := ⟨(l j - 1).toNat, by omega, by omega⟩
            obtain ⟨u0, hu0⟩ := Hown.out.cell hix
            have hf0 := Hown.out.frozen ix
            have HU := Lib.hid (uP_pos hlit)
            rw [hlit] at hct2
            clear hlit hp hl0 hl1 hl2
            go_wp2
            go_roundw
            case rel => exact ⟨j + 1, by omega, by go_num, by rw [HU.out]; exact Hown.out.upd hix true, HB.out.setCell (Nat.le_refl _) _⟩
            case measure => simp [intOf]; omega
          · have HU := Lib.hid (uP_no hp)
            go_wp2
            go_roundw
            case rel => exact ⟨j + 1, by omega, by go_num, by rw [HU.out]; exact Hown.out, HB.out⟩
            case measure => simp [intOf]; omega
        · have e : j = k := by omega
          subst e
          clear hmk hown hb
          go_wp2_with fail
          refine (implEval_any _ _ _ _ _ _ _ c l (uP l j) _ hkB Hcr.out Hown.out.rdAt).mono ?_
          rintro e w9 ⟨rfl, hb9⟩
          have HB9 := Lib.hid (bl_trans (bl_trans HB5.out HB.out) hb9)
          clear hb9
          rw [HE.out]
          go_wp2
          go_ret
          exact ⟨rfl, HB9.out⟩

set_option maxRecDepth 100000 in
set_option maxHeartbeats 1600000 in
theorem lawFnConstraintFalse_walk (A0 : Option Addr) (n0 cap0 : Nat) (y0 : Nat → Int) (w : World) (hm0 : n0 ≤ maxLen) (hc0 : n0 ≤ cap0) (hr0 : RdY w w.heap.size A0 n0 y0) :
    Calls Try.prog 8 #[.slice A0 n0 cap0] w fun e w' => e = .returned (.bool true) ∧ Below w.heap.size w w' := by
  by_cases h0 : n0 ≤ 1048576
  · exact lawFnConstraintFalse_ok A0 n0 cap0 y0 w h0 hc0 hr0
  · unfold maxLen at hm0
    have hi0 : (1048576 : Int) < (n0 : Int) := by omega
    go_enter Try.func8, Try.ntmps8
    go_wp2
    go_ret
    exact ⟨rfl, Below.refl _ _⟩
end Go.Proofs.Ytfgmkaajcbmlmaa
