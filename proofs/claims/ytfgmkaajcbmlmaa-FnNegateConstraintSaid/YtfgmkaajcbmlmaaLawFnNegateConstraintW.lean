/- The walk of the law FnNegateConstraint (no claim of its own). Conditions: as each theorem states. -/
import Derived.Test.YtfgmkaajcbmlmaaNgtB
import Derived.Test.YtfgmkaajcbmlmaaNgtP
import Derived.Test.YtfgmkaajcbmlmaaDrwL
import Derived.Test.YtfgmkaajcbmlmaaClsA
import Derived.Deep.RegionHeld3
namespace Go.Proofs.Ytfgmkaajcbmlmaa
open Go.ChangeShapes Go.WideShapes Go.ChangeAt Go.RowKit Go.Shelf

set_option maxRecDepth 100000 in
set_option maxHeartbeats 6400000 in
theorem lawFnNegateConstraint_ok (A0 : Option Addr) (n0 cap0 : Nat) (y0 : Nat → Int) (w : World) (h0 : n0 ≤ 1048576) (hc0 : n0 ≤ cap0) (hr0 : RdY w w.heap.size A0 n0 y0) :
    Calls Try.prog 6 #[.slice A0 n0 cap0] w fun e w' => e = .returned (.bool true) ∧ Below w.heap.size w w' := by
  have hm0 : n0 ≤ maxLen := by unfold maxLen; omega
  have hi0 : ¬ (1048576 : Int) < (n0 : Int) := by omega
  go_enter Try.func6, Try.ntmps6
  go_wp2_with fail
  refine (drawEval_any _ _ _ y0 _ hm0 hc0 hr0).mono ?_
  rintro e w1 ⟨Ac, k, capc, bd, c, l, Av, kv, capv, v, rfl, hk, hkv, hrc, hrv, hb⟩
  have HB1 := Lib.hid hb
  have Hc := Lib.hid hrc
  have Hv := Lib.hid hrv
  clear hb hrc hrv
  have hkB : k ≤ 1048576 := by omega
  go_wp2_with fail
  have HAl := Lib.hid (bl_alloc (Below.refl w1.heap.size w1) (.cells #[.slice Ac k capc, .int .i64 bd] 25))
  have a0 : (w1.alloc (.cells #[.slice Ac k capc, .int .i64 bd] 25)).cell? ⟨w1.heap.size, 0, none⟩ = some (.slice Ac k capc) := by go_simp
  have a1 : (w1.alloc (.cells #[.slice Ac k capc, .int .i64 bd] 25)).cell? ⟨w1.heap.size, 1, none⟩ = some (.int .i64 bd) := by go_simp
  refine (implNeg_any _ _ _ _ c l _ hkB (Hc.out.later HAl.out)).mono ?_
  rintro e w2 ⟨An, capn, rfl, hfn, hb1⟩
  have hnn := negNum_le k c l bd
  have hb := bl_trans HAl.out hb1
  have HB2 := Lib.hid (bl_trans HB1.out hb)
  have Hc2 := Lib.hid (Hc.out.later hb)
  have Hv2 := Lib.hid (Hv.out.later hb)
  have Hn2 := Lib.hid hfn.rdAt
  replace a0 := kc hb1 a0
  replace a1 := kc hb1 a1
  have z2 : w1.heap.size < w2.heap.size := World.block_lt_of_cell? w2 ⟨w1.heap.size, 0, none⟩ a0
  clear hb hb1 hfn HB1 Hc Hv HAl
  go_wp2_with fail
  have HAl := Lib.hid (bl_alloc (Below.refl w2.heap.size w2) (.cells #[.slice An (negNum k c l bd) capn, .int .i64 (negBnd k c l bd)] 25))
  have b0 : (w2.alloc (.cells #[.slice An (negNum k c l bd) capn, .int .i64 (negBnd k c l bd)] 25)).cell? ⟨w2.heap.size, 0, none⟩ = some (.slice An (negNum k c l bd) capn) := by go_simp
  have b1 : (w2.alloc (.cells #[.slice An (negNum k c l bd) capn, .int .i64 (negBnd k c l bd)] 25)).cell? ⟨w2.heap.size, 1, none⟩ = some (.int .i64 (negBnd k c l bd)) := by go_simp
  replace a0 := kc HAl.out a0
  replace a1 := kc HAl.out a1
  refine (specNeg_any _ _ _ _ c l _ hkB (Hc2.out.later HAl.out)).mono ?_
  rintro e w3 ⟨As, caps, rfl, hfs, hb1⟩
  have hb := bl_trans HAl.out hb1
  have HB3 := Lib.hid (bl_trans HB2.out hb)
  have Hc3 := Lib.hid (Hc2.out.later hb)
  have Hv3 := Lib.hid (Hv2.out.later hb)
  have Hn3 := Lib.hid (Hn2.out.later hb)
  have Hs3 := Lib.hid hfs.rdAt
  replace a0 := kc hb1 a0
  replace a1 := kc hb1 a1
  replace b0 := kc hb1 b0
  replace b1 := kc hb1 b1
  have z3 : w2.heap.size < w3.heap.size := World.block_lt_of_cell? w3 ⟨w2.heap.size, 0, none⟩ b0
  clear hb hb1 hfs HB2 Hc2 Hv2 Hn2 HAl
  have HAl := Lib.hid (bl_alloc (Below.refl w3.heap.size w3) (.cells #[.slice As (negNum k c l bd) caps, .int .i64 (negBnd k c l bd)] 25))
  have HSame := Lib.hid (same_refl (negNum k c l bd) c (negL l) (negBnd k c l bd))
  have hNB : negNum k c l bd ≤ 1048576 := by omega
  cases hval : validB k c l bd with
  | false =>
    clear hval
    go_wp2_with fail
    have d0 : (w3.alloc (.cells #[.slice As (negNum k c l bd) caps, .int .i64 (negBnd k c l bd)] 25)).cell? ⟨w3.heap.size, 0, none⟩ = some (.slice As (negNum k c l bd) caps) := by go_simp
    have d1 : (w3.alloc (.cells #[.slice As (negNum k c l bd) caps, .int .i64 (negBnd k c l bd)] 25)).cell? ⟨w3.heap.size, 1, none⟩ = some (.int .i64 (negBnd k c l bd)) := by go_simp
    replace b0 := kc HAl.out b0
    replace b1 := kc HAl.out b1
    refine (implSame_any _ _ _ _ _ _ _ _ c (negL l) c (negL l) _ hNB (Hn3.out.later HAl.out) (Hs3.out.later HAl.out)).mono ?_
    rintro e w4 ⟨rfl, hb1⟩
    have hb := bl_trans HAl.out hb1
    have HB4 := Lib.hid (bl_trans HB3.out hb)
    have Hn4 := Lib.hid (Hn3.out.later hb)
    have Hs4 := Lib.hid (Hs3.out.later hb)
    replace b0 := kc hb1 b0
    replace b1 := kc hb1 b1
    replace d0 := kc hb1 d0
    replace d1 := kc hb1 d1
    clear hb hb1 HB3 Hn3 Hs3 HAl
    rw [HSame.out]
    go_wp2_with fail
    refine (implSame_any _ _ _ _ _ _ _ _ c (negL l) c (negL l) _ hNB Hn4.out Hs4.out).mono ?_
    rintro e w5 ⟨rfl, hb⟩
    have HB5 := Lib.hid (bl_trans HB4.out hb)
    clear hb
    rw [HSame.out]
    go_wp2
    go_ret
    exact ⟨rfl, HB5.out⟩
  | true =>
    have Hval := Lib.hid hval
    clear hval
    by_cases h12 : kv = 12
    · subst h12
      have HnV := Lib.hid (neg_valid hk Hval.out)
      have HnE := Lib.hid (neg_eval (v := v) hk Hval.out)
      have eN : negNum k c l bd = k := by unfold negNum; rw [Hval.out]; rfl
      have eB : negBnd k c l bd = negBd k c l bd := by unfold negBnd; rw [Hval.out]; rfl
      rw [eN] at b0 Hn3 Hs3 HAl HSame ⊢
      rw [eB] at b1 HAl HSame ⊢
      clear eN eB hnn hNB
      go_wp2_with fail
      have d0 : (w3.alloc (.cells #[.slice As k caps, .int .i64 (negBd k c l bd)] 25)).cell? ⟨w3.heap.size, 0, none⟩ = some (.slice As k caps) := by go_simp
      have d1 : (w3.alloc (.cells #[.slice As k caps, .int .i64 (negBd k c l bd)] 25)).cell? ⟨w3.heap.size, 1, none⟩ = some (.int .i64 (negBd k c l bd)) := by go_simp
      replace a0 := kc HAl.out a0
      replace a1 := kc HAl.out a1
      replace b0 := kc HAl.out b0
      replace b1 := kc HAl.out b1
      refine (implSame_any _ _ _ _ _ _ _ _ c (negL l) c (negL l) _ hkB (Hn3.out.later HAl.out) (Hs3.out.later HAl.out)).mono ?_
      rintro e w4 ⟨rfl, hb1⟩
      have hb := bl_trans HAl.out hb1
      have HB := Lib.hid (bl_trans HB3.out hb)
      have Hc := Lib.hid (Hc3.out.later hb)
      have Hn := Lib.hid (Hn3.out.later hb)
      have Hv := Lib.hid (Hv3.out.later hb)
      replace a0 := kc hb1 a0
      replace a1 := kc hb1 a1
      replace b0 := kc hb1 b0
      replace b1 := kc hb1 b1
      clear hb hb1 HB3 Hn3 Hs3 Hc3 Hv3 HAl d0 d1
      rw [HSame.out]
      cases hev : evalV k c l bd 12 v with
      | true =>
        rw [hev] at HnE
        have Hev := Lib.hid hev
        clear hev
        go_wp2_with fail
        refine region_class (C := Cls w4) (by kernel_rfl) (by kernel_rfl) (Below.refl w4.heap.size w4).drew ?_
        refine BigFrame.wpQuiet_want (by rfl) (fun K hK => quiet_val (v := .agg #[.slice An k capn, .int .i64 (negBd k c l bd)]) (fun w' hw => ?_) (hK _ ?_))
        · have e0 := kc hw b0
          have e1 := kc hw b1
          clear a0 a1 b0 b1
          go_simp
        clear hK K
        refine BigFrame.wpQuiet_want (by rfl) (fun K hK => quiet_enter (v := .bool true) (f := 26) (args := #[.agg #[.slice An k capn, .int .i64 (negBd k c l bd)]]) (fun w' hw => ?_) (fun w' hw => ?_) (hK _ ?_))
        · go_simp
        · refine (implValid_any _ _ _ _ c (negL l) _ hkB (Hn.out.later hw)).mono ?_
          rintro e w5 ⟨rfl, hb⟩
          exact ⟨by rw [HnV.out], bl_trans hw hb⟩
        clear hK K
        simp only [Act.put, List.setIfInBounds_toArray, List.set_cons_succ, List.set_cons_zero]
        repeat (go_big_quiet_step (fail))
        refine BigFrame.wpQuiet_want (by rfl) (fun K hK => quiet_val (v := .agg #[.slice An k capn, .int .i64 (negBd k c l bd)]) (fun w' hw => ?_) (hK _ ?_))
        · have e0 := kc hw b0
          have e1 := kc hw b1
          clear a0 a1 b0 b1
          go_simp
        clear hK K
        simp only [Act.put, List.setIfInBounds_toArray, List.set_cons_succ, List.set_cons_zero]
        repeat (go_big_quiet_step (fail))
        refine BigFrame.wpQuiet_want (by rfl) (fun K hK => quiet_enter (v := .bool false) (f := 15) (args := #[.agg #[.slice An k capn, .int .i64 (negBd k c l bd)], .slice Av 12 capv]) (fun w' hw => ?_) (fun w' hw => ?_) (hK _ ?_))
        · go_simp
        · refine (implEval_any _ _ _ _ _ _ _ c (negL l) v _ hkB (Hn.out.later hw) (Hv.out.later hw)).mono ?_
          rintro e w5 ⟨rfl, hb⟩
          exact ⟨by rw [HnE.out]; rfl, bl_trans hw hb⟩
        clear hK K
        simp only [Act.put, List.setIfInBounds_toArray, List.set_cons_succ, List.set_cons_zero]
        repeat (go_big_quiet_step (fail))
        refine BigFrame.wpQuiet_want (by rfl) (fun K hK => quiet_val (v := .agg #[.slice Ac k capc, .int .i64 bd]) (fun w' hw => ?_) (hK _ ?_))
        · have e0 := kc hw a0
          have e1 := kc hw a1
          clear a0 a1 b0 b1
          go_simp
        clear hK K
        simp only [Act.put, List.setIfInBounds_toArray, List.set_cons_succ, List.set_cons_zero]
        repeat (go_big_quiet_step (fail))
        refine BigFrame.wpQuiet_want (by rfl) (fun K hK => quiet_enter (v := .bool true) (f := 15) (args := #[.agg #[.slice Ac k capc, .int .i64 bd], .slice Av 12 capv]) (fun w' hw => ?_) (fun w' hw => ?_) (hK _ ?_))
        · go_simp
        · refine (implEval_any _ _ _ _ _ _ _ c l v _ hkB (Hc.out.later hw) (Hv.out.later hw)).mono ?_
          rintro e w5 ⟨rfl, hb⟩
          exact ⟨by rw [Hev.out], bl_trans hw hb⟩
        clear hK K
        simp only [Act.put, List.setIfInBounds_toArray, List.set_cons_succ, List.set_cons_zero]
        repeat (go_big_quiet_step (fail))
        refine BigFrame.wpQuiet_want (by rfl) (fun K hK => quiet_val (v := .bool true) (fun w' hw => ?_) (hK _ ?_))
        · clear hK K
          go_simp
        clear hK K
        simp only [Act.put, List.setIfInBounds_toArray, List.set_cons_succ, List.set_cons_zero]
        repeat (go_big_quiet_step (fail))
        refine BigFrame.wpQuiet_want (by rfl) (fun K hK => quiet_val (v := .bool true) (fun w' hw => ?_) (hK _ ?_))
        · clear hK K
          go_simp
        clear hK K
        simp only [Act.put, List.setIfInBounds_toArray, List.set_cons_succ, List.set_cons_zero]
        repeat (go_big_quiet_step (fail))
        refine wpQuiet_nil ?_
        intro w' hw'
        have HBw := Lib.hid (bl_trans HB.out hw')
        clear hw'
        go_wp2
        go_ret
        exact ⟨rfl, HBw.out⟩
      | false =>
        rw [hev] at HnE
        have Hev := Lib.hid hev
        clear hev
        go_wp2_with fail
        refine region_class (C := Cls w4) (by kernel_rfl) (by kernel_rfl) (Below.refl w4.heap.size w4).drew ?_
        refine BigFrame.wpQuiet_want (by rfl) (fun K hK => quiet_val (v := .agg #[.slice An k capn, .int .i64 (negBd k c l bd)]) (fun w' hw => ?_) (hK _ ?_))
        · have e0 := kc hw b0
          have e1 := kc hw b1
          clear a0 a1 b0 b1
          go_simp
        clear hK K
        refine BigFrame.wpQuiet_want (by rfl) (fun K hK => quiet_enter (v := .bool true) (f := 26) (args := #[.agg #[.slice An k capn, .int .i64 (negBd k c l bd)]]) (fun w' hw => ?_) (fun w' hw => ?_) (hK _ ?_))
        · go_simp
        · refine (implValid_any _ _ _ _ c (negL l) _ hkB (Hn.out.later hw)).mono ?_
          rintro e w5 ⟨rfl, hb⟩
          exact ⟨by rw [HnV.out], bl_trans hw hb⟩
        clear hK K
        simp only [Act.put, List.setIfInBounds_toArray, List.set_cons_succ, List.set_cons_zero]
        repeat (go_big_quiet_step (fail))
        refine BigFrame.wpQuiet_want (by rfl) (fun K hK => quiet_val (v := .agg #[.slice An k capn, .int .i64 (negBd k c l bd)]) (fun w' hw => ?_) (hK _ ?_))
        · have e0 := kc hw b0
          have e1 := kc hw b1
          clear a0 a1 b0 b1
          go_simp
        clear hK K
        simp only [Act.put, List.setIfInBounds_toArray, List.set_cons_succ, List.set_cons_zero]
        repeat (go_big_quiet_step (fail))
        refine BigFrame.wpQuiet_want (by rfl) (fun K hK => quiet_enter (v := .bool true) (f := 15) (args := #[.agg #[.slice An k capn, .int .i64 (negBd k c l bd)], .slice Av 12 capv]) (fun w' hw => ?_) (fun w' hw => ?_) (hK _ ?_))
        · go_simp
        · refine (implEval_any _ _ _ _ _ _ _ c (negL l) v _ hkB (Hn.out.later hw) (Hv.out.later hw)).mono ?_
          rintro e w5 ⟨rfl, hb⟩
          exact ⟨by rw [HnE.out]; rfl, bl_trans hw hb⟩
        clear hK K
        simp only [Act.put, List.setIfInBounds_toArray, List.set_cons_succ, List.set_cons_zero]
        repeat (go_big_quiet_step (fail))
        refine BigFrame.wpQuiet_want (by rfl) (fun K hK => quiet_val (v := .agg #[.slice Ac k capc, .int .i64 bd]) (fun w' hw => ?_) (hK _ ?_))
        · have e0 := kc hw a0
          have e1 := kc hw a1
          clear a0 a1 b0 b1
          go_simp
        clear hK K
        simp only [Act.put, List.setIfInBounds_toArray, List.set_cons_succ, List.set_cons_zero]
        repeat (go_big_quiet_step (fail))
        refine BigFrame.wpQuiet_want (by rfl) (fun K hK => quiet_enter (v := .bool false) (f := 15) (args := #[.agg #[.slice Ac k capc, .int .i64 bd], .slice Av 12 capv]) (fun w' hw => ?_) (fun w' hw => ?_) (hK _ ?_))
        · go_simp
        · refine (implEval_any _ _ _ _ _ _ _ c l v _ hkB (Hc.out.later hw) (Hv.out.later hw)).mono ?_
          rintro e w5 ⟨rfl, hb⟩
          exact ⟨by rw [Hev.out], bl_trans hw hb⟩
        clear hK K
        simp only [Act.put, List.setIfInBounds_toArray, List.set_cons_succ, List.set_cons_zero]
        repeat (go_big_quiet_step (fail))
        refine BigFrame.wpQuiet_want (by rfl) (fun K hK => quiet_val (v := .bool true) (fun w' hw => ?_) (hK _ ?_))
        · clear hK K
          go_simp
        clear hK K
        simp only [Act.put, List.setIfInBounds_toArray, List.set_cons_succ, List.set_cons_zero]
        repeat (go_big_quiet_step (fail))
        refine BigFrame.wpQuiet_want (by rfl) (fun K hK => quiet_val (v := .bool true) (fun w' hw => ?_) (hK _ ?_))
        · clear hK K
          go_simp
        clear hK K
        simp only [Act.put, List.setIfInBounds_toArray, List.set_cons_succ, List.set_cons_zero]
        repeat (go_big_quiet_step (fail))
        refine wpQuiet_nil ?_
        intro w' hw'
        have HBw := Lib.hid (bl_trans HB.out hw')
        clear hw'
        go_wp2
        go_ret
        exact ⟨rfl, HBw.out⟩
    · have hnd : ((kv : Int) != 12) = true := by rw [bne_iff_ne]; omega
      clear h12
      go_wp2_with fail
      have d0 : (w3.alloc (.cells #[.slice As (negNum k c l bd) caps, .int .i64 (negBnd k c l bd)] 25)).cell? ⟨w3.heap.size, 0, none⟩ = some (.slice As (negNum k c l bd) caps) := by go_simp
      have d1 : (w3.alloc (.cells #[.slice As (negNum k c l bd) caps, .int .i64 (negBnd k c l bd)] 25)).cell? ⟨w3.heap.size, 1, none⟩ = some (.int .i64 (negBnd k c l bd)) := by go_simp
      replace b0 := kc HAl.out b0
      replace b1 := kc HAl.out b1
      refine (implSame_any _ _ _ _ _ _ _ _ c (negL l) c (negL l) _ hNB (Hn3.out.later HAl.out) (Hs3.out.later HAl.out)).mono ?_
      rintro e w4 ⟨rfl, hb1⟩
      have hb := bl_trans HAl.out hb1
      have HB4 := Lib.hid (bl_trans HB3.out hb)
      have Hn4 := Lib.hid (Hn3.out.later hb)
      have Hs4 := Lib.hid (Hs3.out.later hb)
      replace b0 := kc hb1 b0
      replace b1 := kc hb1 b1
      replace d0 := kc hb1 d0
      replace d1 := kc hb1 d1
      clear hb hb1 HB3 Hn3 Hs3 HAl
      rw [HSame.out]
      go_wp2_with fail
      refine (implSame_any _ _ _ _ _ _ _ _ c (negL l) c (negL l) _ hNB Hn4.out Hs4.out).mono ?_
      rintro e w5 ⟨rfl, hb⟩
      have HB5 := Lib.hid (bl_trans HB4.out hb)
      clear hb
      rw [HSame.out]
      go_wp2
      go_ret
      exact ⟨rfl, HB5.out⟩

set_option maxRecDepth 100000 in
set_option maxHeartbeats 1600000 in
theorem lawFnNegateConstraint_walk (A0 : Option Addr) (n0 cap0 : Nat) (y0 : Nat → Int) (w : World) (hm0 : n0 ≤ maxLen) (hc0 : n0 ≤ cap0) (hr0 : RdY w w.heap.size A0 n0 y0) :
    Calls Try.prog 6 #[.slice A0 n0 cap0] w fun e w' => e = .returned (.bool true) ∧ Below w.heap.size w w' := by
  by_cases h0 : n0 ≤ 1048576
  · exact lawFnNegateConstraint_ok A0 n0 cap0 y0 w h0 hc0 hr0
  · unfold maxLen at hm0
    have hi0 : (1048576 : Int) < (n0 : Int) := by omega
    go_enter Try.func6, Try.ntmps6
    go_wp2
    go_ret
    exact ⟨rfl, Below.refl _ _⟩
end Go.Proofs.Ytfgmkaajcbmlmaa
