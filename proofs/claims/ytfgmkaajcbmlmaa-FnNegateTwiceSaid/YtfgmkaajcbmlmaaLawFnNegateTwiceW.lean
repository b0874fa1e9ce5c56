/- The walk of the law FnNegateTwice (no claim of its own). Conditions: as each theorem states. -/
import Derived.Test.YtfgmkaajcbmlmaaNgtT
import Derived.Test.YtfgmkaajcbmlmaaDrwV
import Derived.Test.YtfgmkaajcbmlmaaClsA
import Derived.Deep.RegionHeld3
namespace Go.Proofs.Ytfgmkaajcbmlmaa
open Go.ChangeShapes Go.WideShapes Go.ChangeAt Go.RowKit Go.Shelf

set_option maxRecDepth 100000 in
set_option maxHeartbeats 6400000 in
theorem lawFnNegateTwice_ok (A0 : Option Addr) (n0 cap0 : Nat) (y0 : Nat → Int) (w : World) (h0 : n0 ≤ 1048576) (hc0 : n0 ≤ cap0) (hr0 : RdY w w.heap.size A0 n0 y0) :
    Calls Try.prog 9 #[.slice A0 n0 cap0] w fun e w' => e = .returned (.bool true) ∧ Below w.heap.size w w' := by
  have hm0 : n0 ≤ maxLen := by unfold maxLen; omega
  have hi0 : ¬ (1048576 : Int) < (n0 : Int) := by omega
  go_enter Try.func9, Try.ntmps9
  go_wp2_with fail
  refine (drawNeg_any _ _ _ y0 _ hm0 hc0 hr0).mono ?_
  rintro e w1 ⟨Ac, k, capc, bd, c, l, rfl, hk, hrc, hb⟩
  have HB1 := Lib.hid hb
  have Hc := Lib.hid hrc.rdAt
  clear hb hrc
  have hkB : k ≤ 1048576 := by omega
  go_wp2_with fail
  have HAl := Lib.hid (bl_alloc (Below.refl w1.heap.size w1) (.cells #[.slice Ac k capc, .int .i64 bd] 25))
  have a0 : (w1.alloc (.cells #[.slice Ac k capc, .int .i64 bd] 25)).cell? ⟨w1.heap.size, 0, none⟩ = some (.slice Ac k capc) := by go_simp
  have a1 : (w1.alloc (.cells #[.slice Ac k capc, .int .i64 bd] 25)).cell? ⟨w1.heap.size, 1, none⟩ = some (.int .i64 bd) := by go_simp
  refine (implNeg_any _ _ _ _ c l _ hkB (Hc.out.later HAl.out)).mono ?_
  rintro e w2 ⟨An, capn, rfl, hfn, hb1⟩
  have hnn := negNum_le k c l bd
  have hb := bl_trans HAl.out hb1
  have HB2 := Lib.hid (bl_trans HB1.out hb)
  have Hc2 := Lib.hid (Hc.out.later hb)
  have Hn2 := Lib.hid hfn.rdAt
  replace a0 := kc hb1 a0
  replace a1 := kc hb1 a1
  have z2 : w1.heap.size < w2.heap.size := World.block_lt_of_cell? w2 ⟨w1.heap.size, 0, none⟩ a0
  clear hb hb1 hfn HB1 Hc HAl
  go_wp2_with fail
  have HAl := Lib.hid (bl_alloc (Below.refl w2.heap.size w2) (.cells #[.slice An (negNum k c l bd) capn, .int .i64 (negBnd k c l bd)] 25))
  have b0 : (w2.alloc (.cells #[.slice An (negNum k c l bd) capn, .int .i64 (negBnd k c l bd)] 25)).cell? ⟨w2.heap.size, 0, none⟩ = some (.slice An (negNum k c l bd) capn) := by go_simp
  have b1 : (w2.alloc (.cells #[.slice An (negNum k c l bd) capn, .int .i64 (negBnd k c l bd)] 25)).cell? ⟨w2.heap.size, 1, none⟩ = some (.int .i64 (negBnd k c l bd)) := by go_simp
  replace a0 := kc HAl.out a0
  replace a1 := kc HAl.out a1
  refine (specNeg_any _ _ _ _ c l _ hkB (Hc2.out.later HAl.out)).mono ?_
  rintro e w3 ⟨As, caps, rfl, hfs, hb1⟩
  have hb := bl_trans HAl.out hb1
  have HB3 := Lib.hid (bl_trans HB2.out hb)
  have Hc3 := Lib.hid (Hc2.out.later hb)
  have Hn3 := Lib.hid (Hn2.out.later hb)
  have Hs3 := Lib.hid hfs.rdAt
  replace a0 := kc hb1 a0
  replace a1 := kc hb1 a1
  replace b0 := kc hb1 b0
  replace b1 := kc hb1 b1
  have z3 : w2.heap.size < w3.heap.size := World.block_lt_of_cell? w3 ⟨w2.heap.size, 0, none⟩ b0
  clear hb hb1 hfs HB2 Hc2 Hn2 HAl
  have HAl := Lib.hid (bl_alloc (Below.refl w3.heap.size w3) (.cells #[.slice As (negNum k c l bd) caps, .int .i64 (negBnd k c l bd)] 25))
  have HSame := Lib.hid (same_refl (negNum k c l bd) c (negL l) (negBnd k c l bd))
  have hNB : negNum k c l bd ≤ 1048576 := by omega
  cases hval : validB k c l bd with
  | false =>
    clear hval
    go_wp2_with fail
    have d0 : (w3.alloc (.cells #[.slice As (negNum k c l bd) caps, .int .i64 (negBnd k c l bd)] 25)).cell? ⟨w3.heap.size, 0, none⟩ = some (.slice As (negNum k c l bd) caps) := by go_simp
    have d1 : (w3.alloc (.cells #[.slice As (negNum k c l bd) caps, .int .i64 (negBnd k c l bd)] 25)).cell? ⟨w3.heap.size, 1, none⟩ = some (.int .i64 (negBnd k c l bd)) := by go_simp
    replace b0 := kc HAl.out b0
    replace b1 := kc HAl.out b1
    refine (implSame_any _ _ _ _ _ _ _ _ c (negL l) c (negL l) _ hNB (Hn3.out.later HAl.out) (Hs3.out.later HAl.out)).mono ?_
    rintro e w4 ⟨rfl, hb1⟩
    have hb := bl_trans HAl.out hb1
    have HB4 := Lib.hid (bl_trans HB3.out hb)
    have Hn4 := Lib.hid (Hn3.out.later hb)
    have Hs4 := Lib.hid (Hs3.out.later hb)
    replace b0 := kc hb1 b0
    replace b1 := kc hb1 b1
    replace d0 := kc hb1 d0
    replace d1 := kc hb1 d1
    clear hb hb1 HB3 Hn3 Hs3 HAl
    rw [HSame.out]
    go_wp2_with fail
    refine (implSame_any _ _ _ _ _ _ _ _ c (negL l) c (negL l) _ hNB Hn4.out Hs4.out).mono ?_
    rintro e w5 ⟨rfl, hb⟩
    have HB5 := Lib.hid (bl_trans HB4.out hb)
    clear hb
    rw [HSame.out]
    go_wp2
    go_ret
    exact ⟨rfl, HB5.out⟩
  | true =>
    have Hval := Lib.hid hval
    clear hval
    have HnV := Lib.hid (neg_valid hk Hval.out)
    have HTT := Lib.hid (totW_neg hk Hval.out)
    have eN : negNum k c l bd = k := by unfold negNum; rw [Hval.out]; rfl
    have eB : negBnd k c l bd = negBd k c l bd := by unfold negBnd; rw [Hval.out]; rfl
    rw [eN] at b0 Hn3 Hs3 HAl HSame ⊢
    rw [eB] at b1 HAl HSame ⊢
    clear eN eB hnn hNB
    have d0 : (w3.alloc (.cells #[.slice As k caps, .int .i64 (negBd k c l bd)] 25)).cell? ⟨w3.heap.size, 0, none⟩ = some (.slice As k caps) := by go_simp
    have d1 : (w3.alloc (.cells #[.slice As k caps, .int .i64 (negBd k c l bd)] 25)).cell? ⟨w3.heap.size, 1, none⟩ = some (.int .i64 (negBd k c l bd)) := by go_simp
    replace a0 := kc HAl.out a0
    replace a1 := kc HAl.out a1
    replace b0 := kc HAl.out b0
    replace b1 := kc HAl.out b1
    go_wp2_with fail
    refine (implSame_any _ _ _ _ _ _ _ _ c (negL l) c (negL l) _ hkB (Hn3.out.later HAl.out) (Hs3.out.later HAl.out)).mono ?_
    rintro e w4 ⟨rfl, hb1⟩
    have hb := bl_trans HAl.out hb1
    have HB4 := Lib.hid (bl_trans HB3.out hb)
    have Hc4 := Lib.hid (Hc3.out.later hb)
    have Hn4 := Lib.hid (Hn3.out.later hb)
    have Hs4 := Lib.hid (Hs3.out.later hb)
    replace a0 := kc hb1 a0
    replace a1 := kc hb1 a1
    replace b0 := kc hb1 b0
    replace b1 := kc hb1 b1
    replace d0 := kc hb1 d0
    replace d1 := kc hb1 d1
    clear hb hb1 HB3 Hn3 Hs3 Hc3 HAl
    rw [HSame.out]
    by_cases hz : bd = 0
    · have hzd : (bd == 0) = true := by rw [beq_iff_eq]; exact hz
      have Hz := Lib.hid hz
      clear hz
      go_wp2_with fail
      refine (implSame_any _ _ _ _ _ _ _ _ c (negL l) c (negL l) _ hkB Hn4.out Hs4.out).mono ?_
      rintro e w5 ⟨rfl, hb⟩
      have HB5 := Lib.hid (bl_trans HB4.out hb)
      clear hb
      rw [HSame.out]
      go_wp2
      go_ret
      exact ⟨rfl, HB5.out⟩
    · have hzd : (bd == 0) = false := by rw [beq_eq_false_iff_ne]; exact hz
      clear hz
      go_wp2_with fail
      refine (implFalse_any _ _ _ _ c l _ hkB Hc4.out).mono ?_
      rintro e w5 ⟨rfl, hb⟩
      have HB5 := Lib.hid (bl_trans HB4.out hb)
      have Hc5 := Lib.hid (Hc4.out.later hb)
      have Hn5 := Lib.hid (Hn4.out.later hb)
      have Hs5 := Lib.hid (Hs4.out.later hb)
      replace a0 := kc hb a0
      replace a1 := kc hb a1
      replace b0 := kc hb b0
      replace b1 := kc hb b1
      replace d0 := kc hb d0
      replace d1 := kc hb d1
      clear hb HB4 Hn4 Hs4 Hc4
      cases hfa : falseV k c l bd with
      | true =>
        clear hfa
        go_wp2_with fail
        refine (implSame_any _ _ _ _ _ _ _ _ c (negL l) c (negL l) _ hkB Hn5.out Hs5.out).mono ?_
        rintro e w6 ⟨rfl, hb⟩
        have HB6 := Lib.hid (bl_trans HB5.out hb)
        clear hb
        rw [HSame.out]
        go_wp2
        go_ret
        exact ⟨rfl, HB6.out⟩
      | false =>
        have HBB := Lib.hid (negBd_neg hk Hval.out hfa)
        clear hfa Hs5 d0 d1 HSame
        go_wp2_with fail
        refine (implNeg_any _ _ _ _ c (negL l) _ hkB Hn5.out).mono ?_
        rintro e w6 ⟨Ag, capg, rfl, hfg, hb⟩
        have eN : negNum k c (negL l) (negBd k c l bd) = k := by unfold negNum; rw [HnV.out]; rfl
        have eB : negBnd k c (negL l) (negBd k c l bd) = bd := by unfold negBnd; rw [HnV.out]; exact HBB.out
        rw [eN] at hfg
        rw [negL_neg] at hfg
        rw [eN, eB, HnV.out]
        have HB6 := Lib.hid (bl_trans HB5.out hb)
        have Hc6 := Lib.hid (Hc5.out.later hb)
        have Hn6 := Lib.hid (Hn5.out.later hb)
        have Hg6 := Lib.hid hfg.rdAt
        replace a0 := kc hb a0
        replace a1 := kc hb a1
        replace b0 := kc hb b0
        replace b1 := kc hb b1
        clear hb hfg HB5 Hc5 Hn5 eN eB HBB
        go_wp2_with fail
        have HAl := Lib.hid (bl_alloc (Below.refl w6.heap.size w6) (.cells #[.slice Ag k capg, .int .i64 bd] 25))
        have g0 : (w6.alloc (.cells #[.slice Ag k capg, .int .i64 bd] 25)).cell? ⟨w6.heap.size, 0, none⟩ = some (.slice Ag k capg) := by go_simp
        have g1 : (w6.alloc (.cells #[.slice Ag k capg, .int .i64 bd] 25)).cell? ⟨w6.heap.size, 1, none⟩ = some (.int .i64 bd) := by go_simp
        replace a0 := kc HAl.out a0
        replace a1 := kc HAl.out a1
        replace b0 := kc HAl.out b0
        replace b1 := kc HAl.out b1
        have HB := Lib.hid (bl_trans HB6.out HAl.out)
        have Hc := Lib.hid (Hc6.out.later HAl.out)
        have Hn := Lib.hid (Hn6.out.later HAl.out)
        have Hg := Lib.hid (Hg6.out.later HAl.out)
        clear HB6 Hc6 Hn6 Hg6 HAl
        generalize (w6.alloc (.cells #[.slice Ag k capg, .int .i64 bd] 25)) = w7 at *
        have HS2 := Lib.hid (same_refl k c l bd)
        refine region_class (C := Cls w7) (by kernel_rfl) (by kernel_rfl) (Below.refl w7.heap.size w7).drew ?_
        repeat (go_big_quiet_step (fail))
        refine BigFrame.wpQuiet_want (by rfl) (fun K hK => quiet_val (v := .agg #[.slice Ag k capg, .int .i64 bd]) (fun w' hw => ?_) (hK _ ?_))
        · have e0 := kc hw g0
          have e1 := kc hw g1
          clear a0 a1 b0 b1 g0 g1
          go_simp
        clear hK K
        simp only [Act.put, List.setIfInBounds_toArray, List.set_cons_succ, List.set_cons_zero]
        repeat (go_big_quiet_step (fail))
        refine BigFrame.wpQuiet_want (by rfl) (fun K hK => quiet_val (v := .agg #[.slice Ac k capc, .int .i64 bd]) (fun w' hw => ?_) (hK _ ?_))
        · have e0 := kc hw a0
          have e1 := kc hw a1
          clear a0 a1 b0 b1 g0 g1
          go_simp
        clear hK K
        simp only [Act.put, List.setIfInBounds_toArray, List.set_cons_succ, List.set_cons_zero]
        repeat (go_big_quiet_step (fail))
        refine BigFrame.wpQuiet_want (by rfl) (fun K hK => quiet_enter (v := .bool true) (f := 25) (args := #[.agg #[.slice Ag k capg, .int .i64 bd], .agg #[.slice Ac k capc, .int .i64 bd]]) (fun w' hw => ?_) (fun w' hw => ?_) (hK _ ?_))
        · go_simp
        · refine (implSame_any _ _ _ _ _ _ _ _ c l c l _ hkB (Hg.out.later hw) (Hc.out.later hw)).mono ?_
          rintro e w8 ⟨rfl, hb⟩
          exact ⟨by rw [HS2.out], bl_trans hw hb⟩
        clear hK K
        simp only [Act.put, List.setIfInBounds_toArray, List.set_cons_succ, List.set_cons_zero]
        repeat (go_big_quiet_step (fail))
        refine BigFrame.wpQuiet_want (by rfl) (fun K hK => quiet_val (v := .bool true) (fun w' hw => ?_) (hK _ ?_))
        · clear hK K
          go_simp
        clear hK K
        simp only [Act.put, List.setIfInBounds_toArray, List.set_cons_succ, List.set_cons_zero]
        repeat (go_big_quiet_step (fail))
        refine BigFrame.wpQuiet_want (by rfl) (fun K hK => quiet_val (v := .agg #[.slice An k capn, .int .i64 (negBd k c l bd)]) (fun w' hw => ?_) (hK _ ?_))
        · have e0 := kc hw b0
          have e1 := kc hw b1
          clear a0 a1 b0 b1 g0 g1
          go_simp
        clear hK K
        simp only [Act.put, List.setIfInBounds_toArray, List.set_cons_succ, List.set_cons_zero]
        repeat (go_big_quiet_step (fail))
        refine BigFrame.wpQuiet_want (by rfl) (fun K hK => quiet_enter (v := .int .i64 (totW c l k)) (f := 31) (args := #[.agg #[.slice An k capn, .int .i64 (negBd k c l bd)]]) (fun w' hw => ?_) (fun w' hw => ?_) (hK _ ?_))
        · go_simp
        · refine (implTotal_yes _ _ _ _ c (negL l) _ hkB (Hn.out.later hw) HnV.out).mono ?_
          rintro e w8 ⟨rfl, hb⟩
          exact ⟨by rw [HTT.out], bl_trans hw hb⟩
        clear hK K
        simp only [Act.put, List.setIfInBounds_toArray, List.set_cons_succ, List.set_cons_zero]
        repeat (go_big_quiet_step (fail))
        refine BigFrame.wpQuiet_want (by rfl) (fun K hK => quiet_val (v := .agg #[.slice Ac k capc, .int .i64 bd]) (fun w' hw => ?_) (hK _ ?_))
        · have e0 := kc hw a0
          have e1 := kc hw a1
          clear a0 a1 b0 b1 g0 g1
          go_simp
        clear hK K
        simp only [Act.put, List.setIfInBounds_toArray, List.set_cons_succ, List.set_cons_zero]
        repeat (go_big_quiet_step (fail))
        refine BigFrame.wpQuiet_want (by rfl) (fun K hK => quiet_enter (v := .int .i64 (totW c l k)) (f := 31) (args := #[.agg #[.slice Ac k capc, .int .i64 bd]]) (fun w' hw => ?_) (fun w' hw => ?_) (hK _ ?_))
        · go_simp
        · refine (implTotal_yes _ _ _ _ c l _ hkB (Hc.out.later hw) Hval.out).mono ?_
          rintro e w8 ⟨rfl, hb⟩
          exact ⟨rfl, bl_trans hw hb⟩
        clear hK K
        simp only [Act.put, List.setIfInBounds_toArray, List.set_cons_succ, List.set_cons_zero]
        repeat (go_big_quiet_step (fail))
        refine BigFrame.wpQuiet_want (by rfl) (fun K hK => quiet_val (v := .bool true) (fun w' hw => ?_) (hK _ ?_))
        · clear hK K
          go_simp
        clear hK K
        simp only [Act.put, List.setIfInBounds_toArray, List.set_cons_succ, List.set_cons_zero]
        repeat (go_big_quiet_step (fail))
        refine BigFrame.wpQuiet_want (by rfl) (fun K hK => quiet_val (v := .bool true) (fun w' hw => ?_) (hK _ ?_))
        · clear hK K
          go_simp
        clear hK K
        simp only [Act.put, List.setIfInBounds_toArray, List.set_cons_succ, List.set_cons_zero]
        repeat (go_big_quiet_step (fail))
        refine wpQuiet_nil ?_
        intro w' hw'
        have HBw := Lib.hid (bl_trans HB.out hw')
        clear hw'
        go_wp2
        go_ret
        exact ⟨rfl, HBw.out⟩

set_option maxRecDepth 100000 in
set_option maxHeartbeats 1600000 in
theorem lawFnNegateTwice_walk (A0 : Option Addr) (n0 cap0 : Nat) (y0 : Nat → Int) (w : World) (hm0 : n0 ≤ maxLen) (hc0 : n0 ≤ cap0) (hr0 : RdY w w.heap.size A0 n0 y0) :
    Calls Try.prog 9 #[.slice A0 n0 cap0] w fun e w' => e = .returned (.bool true) ∧ Below w.heap.size w w' := by
  by_cases h0 : n0 ≤ 1048576
  · exact lawFnNegateTwice_ok A0 n0 cap0 y0 w h0 hc0 hr0
  · unfold maxLen at hm0
    have hi0 : (1048576 : Int) < (n0 : Int) := by omega
    go_enter Try.func9, Try.ntmps9
    go_wp2
    go_ret
    exact ⟨rfl, Below.refl _ _⟩
end Go.Proofs.Ytfgmkaajcbmlmaa
