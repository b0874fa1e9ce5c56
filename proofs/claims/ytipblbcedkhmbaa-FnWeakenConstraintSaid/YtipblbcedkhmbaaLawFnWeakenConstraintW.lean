/- The walk of the law FnWeakenConstraint (no claim of its own). Conditions: as each theorem states. -/
import Derived.Test.YtipblbcedkhmbaaWeaF
import Derived.Test.YtipblbcedkhmbaaDrwX
import Derived.Test.YtipblbcedkhmbaaClsA
import Derived.Test.YtipblbcedkhmbaaEvlB
namespace Go.Proofs.Ytipblbcedkhmbaa
open Go.ChangeShapes Go.WideShapes Go.ChangeAt Go.RowKit Go.Shelf

set_option linter.unusedVariables false in
set_option maxRecDepth 100000 in
set_option maxHeartbeats 6400000 in
theorem lawFnWeakenConstraint_ok (A0 : Option Addr) (A1 : Option Addr) (n0 cap0 n1 cap1 : Nat) (y0 y1 : Nat → Int) (w : World) (h0 : n0 ≤ 1048576) (h1 : n1 ≤ 1048576) (hc0 : n0 ≤ cap0) (hr0 : RdY w w.heap.size A0 n0 y0) (hc1 : n1 ≤ cap1) (hr1 : RdY w w.heap.size A1 n1 y1) :
    Calls Try.prog 11 #[.slice A0 n0 cap0, .slice A1 n1 cap1] w fun e w' => e = .returned (.bool true) ∧ Below w.heap.size w w' := by
  have hm0 : n0 ≤ maxLen := by unfold maxLen; omega
  have hm1 : n1 ≤ maxLen := by unfold maxLen; omega
  have hi0 : ¬ (1048576 : Int) < (n0 : Int) := by omega
  have hi1 : ¬ (1048576 : Int) < (n1 : Int) := by omega
  go_enter Try.func11, Try.ntmps11
  go_wp2_with fail
  refine (drawWea_any _ _ _ y0 _ hm0 hc0 hr0).mono ?_
  rintro e w1 ⟨Ac, k, capc, bd, c, l, kk, rfl, hk, hrc, hb⟩
  have HB1 := Lib.hid hb
  have Hc_1 := Lib.hid hrc.rdAt
  have hkB : k ≤ 1048576 := by omega
  clear hrc
  clear hb
  go_wp2_with fail
  have HAl := Lib.hid (bl_alloc (Below.refl w1.heap.size w1) (.cells #[.slice Ac k capc, .int .i64 bd] 27))
  have a0 : (w1.alloc (.cells #[.slice Ac k capc, .int .i64 bd] 27)).cell? ⟨w1.heap.size, 0, none⟩ = some (.slice Ac k capc) := by go_simp
  have a1 : (w1.alloc (.cells #[.slice Ac k capc, .int .i64 bd] 27)).cell? ⟨w1.heap.size, 1, none⟩ = some (.int .i64 bd) := by go_simp
  refine (drawEval_any _ _ _ y1 _ hm1 hc1 (hr1.later (bl_trans HB1.out HAl.out))).mono ?_
  rintro e w2 ⟨Ad, k2, capd, bd2, c2, l2, Av, kv, capv, v, rfl, hk2, hkv, hrd, hrv, hb1⟩
  have hb := bl_trans HAl.out hb1
  have HB2 := Lib.hid (bl_trans HB1.out hb)
  have Hc_2 := Lib.hid (Hc_1.out.later hb)
  have Hv_2 := Lib.hid hrv
  replace a0 := kc hb1 a0
  replace a1 := kc hb1 a1
  have za : w1.heap.size < w2.heap.size := World.block_lt_of_cell? w2 ⟨w1.heap.size, 0, none⟩ a0
  clear hrd hrv
  clear hb hb1 HB1 Hc_1 HAl
  obtain ⟨N, C, L, BD, OK, hN, hI, hS, hK⟩ := weaFacts k c l bd kk hkB
  have HI := Lib.hid hI
  have HS := Lib.hid hS
  have HK := Lib.hid hK
  have HSame := Lib.hid (same_refl' N C L BD)
  clear hI hS hK
  go_wp2_with fail
  have HAl := Lib.hid (bl_alloc (Below.refl w2.heap.size w2) (.cells #[.slice Ad k2 capd, .int .i64 bd2] 27))
  have u0 : (w2.alloc (.cells #[.slice Ad k2 capd, .int .i64 bd2] 27)).cell? ⟨w2.heap.size, 0, none⟩ = some (.slice Ad k2 capd) := by go_simp
  have u1 : (w2.alloc (.cells #[.slice Ad k2 capd, .int .i64 bd2] 27)).cell? ⟨w2.heap.size, 1, none⟩ = some (.int .i64 bd2) := by go_simp
  replace a0 := kc HAl.out a0
  replace a1 := kc HAl.out a1
  refine (HI.out _ _ _ (Hc_2.out.later HAl.out)).mono ?_
  rintro e w3 ⟨Ax, capx, rfl, hfx, hb1⟩
  have hb := bl_trans HAl.out hb1
  have HB3 := Lib.hid (bl_trans HB2.out hb)
  have Hc_3 := Lib.hid (Hc_2.out.later hb)
  have Hv_3 := Lib.hid (Hv_2.out.later hb)
  have Hx_3 := Lib.hid hfx.rdAt
  replace a0 := kc hb1 a0
  replace a1 := kc hb1 a1
  replace u0 := kc hb1 u0
  replace u1 := kc hb1 u1
  clear za
  have za : w1.heap.size < w3.heap.size := World.block_lt_of_cell? w3 ⟨w1.heap.size, 0, none⟩ a0
  have zu : w2.heap.size < w3.heap.size := World.block_lt_of_cell? w3 ⟨w2.heap.size, 0, none⟩ u0
  clear hfx
  clear hb hb1 HB2 Hc_2 Hv_2 HAl
  clear u0 u1 zu
  go_wp2_with fail
  have HAl := Lib.hid (bl_alloc (Below.refl w3.heap.size w3) (.cells #[.slice Ax N capx, .int .i64 BD] 27))
  have b0 : (w3.alloc (.cells #[.slice Ax N capx, .int .i64 BD] 27)).cell? ⟨w3.heap.size, 0, none⟩ = some (.slice Ax N capx) := by go_simp
  have b1 : (w3.alloc (.cells #[.slice Ax N capx, .int .i64 BD] 27)).cell? ⟨w3.heap.size, 1, none⟩ = some (.int .i64 BD) := by go_simp
  replace a0 := kc HAl.out a0
  replace a1 := kc HAl.out a1
  refine (HS.out _ _ _ (Hc_3.out.later HAl.out)).mono ?_
  rintro e w4 ⟨As, caps, rfl, hfs, hb1⟩
  have hb := bl_trans HAl.out hb1
  have HB4 := Lib.hid (bl_trans HB3.out hb)
  have Hc_4 := Lib.hid (Hc_3.out.later hb)
  have Hv_4 := Lib.hid (Hv_3.out.later hb)
  have Hx_4 := Lib.hid (Hx_3.out.later hb)
  have Hs_4 := Lib.hid hfs.rdAt
  replace a0 := kc hb1 a0
  replace a1 := kc hb1 a1
  replace b0 := kc hb1 b0
  replace b1 := kc hb1 b1
  clear za
  have za : w1.heap.size < w4.heap.size := World.block_lt_of_cell? w4 ⟨w1.heap.size, 0, none⟩ a0
  have zb : w3.heap.size < w4.heap.size := World.block_lt_of_cell? w4 ⟨w3.heap.size, 0, none⟩ b0
  clear hfs HI HS
  clear hb hb1 HB3 Hc_3 Hv_3 Hx_3 HAl
  cases OK with
  | false =>
    clear HK
    clear Hc_4 Hv_4
    clear a0 a1 za
    go_wp2_with fail
    have HAl := Lib.hid (bl_alloc (Below.refl w4.heap.size w4) (.cells #[.slice As N caps, .int .i64 BD] 27))
    have d0 : (w4.alloc (.cells #[.slice As N caps, .int .i64 BD] 27)).cell? ⟨w4.heap.size, 0, none⟩ = some (.slice As N caps) := by go_simp
    have d1 : (w4.alloc (.cells #[.slice As N caps, .int .i64 BD] 27)).cell? ⟨w4.heap.size, 1, none⟩ = some (.int .i64 BD) := by go_simp
    replace b0 := kc HAl.out b0
    replace b1 := kc HAl.out b1
    refine (implSame_any _ _ _ _ _ _ _ _ C L C L _ hN (Hx_4.out.later HAl.out) (Hs_4.out.later HAl.out)).mono ?_
    rintro e w5 ⟨rfl, hb1⟩
    have hb := bl_trans HAl.out hb1
    have HB5 := Lib.hid (bl_trans HB4.out hb)
    have Hx_5 := Lib.hid (Hx_4.out.later hb)
    have Hs_5 := Lib.hid (Hs_4.out.later hb)
    replace b0 := kc hb1 b0
    replace b1 := kc hb1 b1
    replace d0 := kc hb1 d0
    replace d1 := kc hb1 d1
    clear zb
    have zb : w3.heap.size < w5.heap.size := World.block_lt_of_cell? w5 ⟨w3.heap.size, 0, none⟩ b0
    have zd : w4.heap.size < w5.heap.size := World.block_lt_of_cell? w5 ⟨w4.heap.size, 0, none⟩ d0
    clear hb hb1 HB4 Hx_4 Hs_4 HAl
    rw [HSame.out]
    go_wp2_with fail
    refine (implSame_any _ _ _ _ _ _ _ _ C L C L _ hN Hx_5.out Hs_5.out).mono ?_
    rintro e w6 ⟨rfl, hb⟩
    have HB6 := Lib.hid (bl_trans HB5.out hb)
    replace b0 := kc hb b0
    replace b1 := kc hb b1
    replace d0 := kc hb d0
    replace d1 := kc hb d1
    clear zb zd
    have zb : w3.heap.size < w6.heap.size := World.block_lt_of_cell? w6 ⟨w3.heap.size, 0, none⟩ b0
    have zd : w4.heap.size < w6.heap.size := World.block_lt_of_cell? w6 ⟨w4.heap.size, 0, none⟩ d0
    clear hb HB5 Hx_5 Hs_5
    rw [HSame.out]
    go_wp2
    go_ret
    exact ⟨rfl, HB6.out⟩
  | true =>
    obtain ⟨⟨hk1, hk2⟩, hV, hE, hX⟩ := HK.out rfl
    have HV := Lib.hid hV
    have HE := Lib.hid (hE 12 v)
    have HXu := Lib.hid hX
    clear hV hE hX HK
    go_wp2_with fail
    have HAl := Lib.hid (bl_alloc (Below.refl w4.heap.size w4) (.cells #[.slice As N caps, .int .i64 BD] 27))
    have d0 : (w4.alloc (.cells #[.slice As N caps, .int .i64 BD] 27)).cell? ⟨w4.heap.size, 0, none⟩ = some (.slice As N caps) := by go_simp
    have d1 : (w4.alloc (.cells #[.slice As N caps, .int .i64 BD] 27)).cell? ⟨w4.heap.size, 1, none⟩ = some (.int .i64 BD) := by go_simp
    replace a0 := kc HAl.out a0
    replace a1 := kc HAl.out a1
    replace b0 := kc HAl.out b0
    replace b1 := kc HAl.out b1
    refine (implSame_any _ _ _ _ _ _ _ _ C L C L _ hN (Hx_4.out.later HAl.out) (Hs_4.out.later HAl.out)).mono ?_
    rintro e w5 ⟨rfl, hb1⟩
    have hb := bl_trans HAl.out hb1
    have HB5 := Lib.hid (bl_trans HB4.out hb)
    have Hc_5 := Lib.hid (Hc_4.out.later hb)
    have Hv_5 := Lib.hid (Hv_4.out.later hb)
    have Hx_5 := Lib.hid (Hx_4.out.later hb)
    have Hs_5 := Lib.hid (Hs_4.out.later hb)
    replace a0 := kc hb1 a0
    replace a1 := kc hb1 a1
    replace b0 := kc hb1 b0
    replace b1 := kc hb1 b1
    replace d0 := kc hb1 d0
    replace d1 := kc hb1 d1
    clear za zb
    have za : w1.heap.size < w5.heap.size := World.block_lt_of_cell? w5 ⟨w1.heap.size, 0, none⟩ a0
    have zb : w3.heap.size < w5.heap.size := World.block_lt_of_cell? w5 ⟨w3.heap.size, 0, none⟩ b0
    have zd : w4.heap.size < w5.heap.size := World.block_lt_of_cell? w5 ⟨w4.heap.size, 0, none⟩ d0
    clear hb hb1 HB4 Hc_4 Hv_4 Hx_4 Hs_4 HAl
    rw [HSame.out]
    by_cases h12 : kv = 12
    · subst h12
      clear Hs_5
      clear d0 d1 zd
      obtain ⟨ix, hix, rfl⟩ : ∃ ix : Nat, ix < 12 ∧ kk = (ix : Int) + 1 := ⟨(kk - 1).toNat, by omega, by omega⟩
      have HXi := Lib.hid (HXu.out v ix (!v ix) rfl)
      clear HXu hk1 hk2
      obtain ⟨bv, offv, rfl, hbv, hcv⟩ := Hv_5.out (by omega)
      have HcA := Lib.hid (fun j (hj : j < 12) => kc (bl_alloc (Below.refl w5.heap.size w5) (.cells #[] 4)) (hcv j hj))
      have hw1 : IntKind.i64.wrap ((ix : Int) + 1 - 1) = (ix : Int) := by rw [IntWalk.i64_in _ (by omega)]; omega
      have hw2 : wrap64 ((ix : Int) + 1 - 1) = (ix : Int) := by rw [← IntWalk.i64_left]; exact hw1
      have hx0 : (0 : Int) ≤ (ix : Int) := by omega
      have hx1 : (ix : Int) < 12 := by omega
      clear hcv hbv
      go_wp2_with (at_builtin; refine wpList_plain (by rfl) fun K' hK' => ?_; refine wp_appB12 _ _ (by rfl) (by rfl) (B0 := w5.heap.size) (by rfl) (by rfl) (rowB_lit w5) (by intro j hj; cases hj; exact Nat.le_refl _) HcA.out (by simp) ?_; intro g cap1 w7 hg1 hov hb7; have hbx := Lib.hid ((bl_alloc (Below.refl w5.heap.size w5) (.cells #[] 4)).trans hb7); have hu0 := hov.cell hix; have hf0 := hov.frozen ix; have Hov := Lib.hid hov; have Hg1 := Lib.hid hg1; clear hb7 hov hg1; refine hK' _ _ ?_; clear hK' K')
      have hb8 : Below w5.heap.size w5 (w7.setCell ⟨g, ix, none⟩ (.bool (!v ix))) := hbx.out.setCell Hg1.out _
      have HO_8 := Lib.hid (Hov.out.upd hix (!v ix)).rdAt
      have HB8 := Lib.hid (bl_trans HB5.out hb8)
      have Hc_8 := Lib.hid (Hc_5.out.later hb8)
      have Hv_8 := Lib.hid (Hv_5.out.later hb8)
      have Hx_8 := Lib.hid (Hx_5.out.later hb8)
      replace a0 := kc hb8 a0
      replace a1 := kc hb8 a1
      replace b0 := kc hb8 b0
      replace b1 := kc hb8 b1
      clear hb8 hbx hu0 hf0 Hov Hg1 HcA hw1 hw2 hx0 hx1 HB5 Hc_5 Hv_5 Hx_5
      generalize w7.setCell ⟨g, ix, none⟩ (.bool (!v ix)) = w8 at *
      cases hev : evalV k c l bd 12 v with
      | false =>
        have Hev := Lib.hid hev
        clear hev HE
        refine region_class (C := Cls w8) (by kernel_rfl) (by kernel_rfl) (Below.refl w8.heap.size w8).drew ?_
        refine BigFrame.wpQuiet_want (by rfl) (fun K hK => quiet_val (v := .agg #[.slice Ax N capx, .int .i64 BD]) (fun w' hw => ?_) (hK _ ?_))
        · have e0 := kc hw b0
          have e1 := kc hw b1
          clear a0 a1 b0 b1 hK K
          go_simp
        clear hK K
        simp only [Act.put, List.setIfInBounds_toArray, List.set_cons_succ, List.set_cons_zero]
        refine BigFrame.wpQuiet_want (by rfl) (fun K hK => quiet_enter (v := .bool true) (f := 21) (args := #[.agg #[.slice Ax N capx, .int .i64 BD]]) (fun w' hw => ?_) (fun w' hw => ?_) (hK _ ?_))
        · go_simp
        · refine (implValid_any _ _ _ _ C L _ hN (Hx_8.out.later hw)).mono ?_
          rintro e w8 ⟨rfl, hb⟩
          exact ⟨by rw [HV.out], bl_trans hw hb⟩
        clear hK K
        simp only [Act.put, List.setIfInBounds_toArray, List.set_cons_succ, List.set_cons_zero]
        refine BigFrame.wpQuiet_want (by rfl) (fun K hK => quiet_val (v := .bool true) (fun w' hw => ?_) (hK _ ?_))
        · clear a0 a1 b0 b1 hK K
          go_simp
        clear hK K
        simp only [Act.put, List.setIfInBounds_toArray, List.set_cons_succ, List.set_cons_zero]
        refine BigFrame.wpQuiet_want (by rfl) (fun K hK => quiet_val (v := .agg #[.slice Ac k capc, .int .i64 bd]) (fun w' hw => ?_) (hK _ ?_))
        · have e0 := kc hw a0
          have e1 := kc hw a1
          clear a0 a1 b0 b1 hK K
          go_simp
        clear hK K
        simp only [Act.put, List.setIfInBounds_toArray, List.set_cons_succ, List.set_cons_zero]
        refine BigFrame.wpQuiet_want (by rfl) (fun K hK => quiet_val (v := .slice (some ⟨bv, offv, none⟩) 12 capv) (fun w' hw => ?_) (hK _ ?_))
        · clear a0 a1 b0 b1 hK K
          go_simp
        clear hK K
        simp only [Act.put, List.setIfInBounds_toArray, List.set_cons_succ, List.set_cons_zero]
        refine BigFrame.wpQuiet_want (by rfl) (fun K hK => quiet_enter (v := .bool (false)) (f := 22) (args := #[.agg #[.slice Ac k capc, .int .i64 bd], .slice (some ⟨bv, offv, none⟩) 12 capv]) (fun w' hw => ?_) (fun w' hw => ?_) (hK _ ?_))
        · go_simp
        · refine (implEval_any _ _ _ _ _ _ _ c l v _ hkB (Hc_8.out.later hw) (Hv_8.out.later hw)).mono ?_
          rintro e w8 ⟨rfl, hb⟩
          exact ⟨by rw [Hev.out], bl_trans hw hb⟩
        clear hK K
        simp only [Act.put, List.setIfInBounds_toArray, List.set_cons_succ, List.set_cons_zero]
        refine BigFrame.wpQuiet_want (by rfl) (fun K hK => quiet_val (v := .bool true) (fun w' hw => ?_) (hK _ ?_))
        · clear a0 a1 b0 b1 hK K
          go_simp
        clear hK K
        simp only [Act.put, List.setIfInBounds_toArray, List.set_cons_succ, List.set_cons_zero]
        refine BigFrame.wpQuiet_want (by rfl) (fun K hK => quiet_val (v := .bool true) (fun w' hw => ?_) (hK _ ?_))
        · clear a0 a1 b0 b1 hK K
          go_simp
        clear hK K
        simp only [Act.put, List.setIfInBounds_toArray, List.set_cons_succ, List.set_cons_zero]
        refine BigFrame.wpQuiet_skip (by rfl) ?_
        simp only [Act.put, List.setIfInBounds_toArray, List.set_cons_succ, List.set_cons_zero]
        refine BigFrame.wpQuiet_skip (by rfl) ?_
        simp only [Act.put, List.setIfInBounds_toArray, List.set_cons_succ, List.set_cons_zero]
        refine BigFrame.wpQuiet_skip (by rfl) ?_
        simp only [Act.put, List.setIfInBounds_toArray, List.set_cons_succ, List.set_cons_zero]
        refine BigFrame.wpQuiet_want (by rfl) (fun K hK => quiet_val (v := .bool true) (fun w' hw => ?_) (hK _ ?_))
        · clear a0 a1 b0 b1 hK K
          go_simp
        clear hK K
        simp only [Act.put, List.setIfInBounds_toArray, List.set_cons_succ, List.set_cons_zero]
        refine BigFrame.wpQuiet_want (by rfl) (fun K hK => quiet_val (v := .bool true) (fun w' hw => ?_) (hK _ ?_))
        · clear a0 a1 b0 b1 hK K
          go_simp
        clear hK K
        simp only [Act.put, List.setIfInBounds_toArray, List.set_cons_succ, List.set_cons_zero]
        refine BigFrame.wpQuiet_want (by rfl) (fun K hK => quiet_val (v := .bool true) (fun w' hw => ?_) (hK _ ?_))
        · clear a0 a1 b0 b1 hK K
          go_simp
        clear hK K
        simp only [Act.put, List.setIfInBounds_toArray, List.set_cons_succ, List.set_cons_zero]
        refine BigFrame.wpQuiet_want (by rfl) (fun K hK => quiet_val (v := .agg #[.slice Ax N capx, .int .i64 BD]) (fun w' hw => ?_) (hK _ ?_))
        · have e0 := kc hw b0
          have e1 := kc hw b1
          clear a0 a1 b0 b1 hK K
          go_simp
        clear hK K
        simp only [Act.put, List.setIfInBounds_toArray, List.set_cons_succ, List.set_cons_zero]
        refine BigFrame.wpQuiet_want (by rfl) (fun K hK => quiet_val (v := .slice (some ⟨g, 0, none⟩) 12 cap1) (fun w' hw => ?_) (hK _ ?_))
        · clear a0 a1 b0 b1 hK K
          go_simp
        clear hK K
        simp only [Act.put, List.setIfInBounds_toArray, List.set_cons_succ, List.set_cons_zero]
        refine BigFrame.wpQuiet_want (by rfl) (fun K hK => quiet_enter (v := .bool (evalV N C L BD 12 v)) (f := 22) (args := #[.agg #[.slice Ax N capx, .int .i64 BD], .slice (some ⟨g, 0, none⟩) 12 cap1]) (fun w' hw => ?_) (fun w' hw => ?_) (hK _ ?_))
        · go_simp
        · refine (implEval_any _ _ _ _ _ _ _ C L _ _ hN (Hx_8.out.later hw) (HO_8.out.later hw)).mono ?_
          rintro e w8 ⟨rfl, hb⟩
          exact ⟨by rw [HXi.out], bl_trans hw hb⟩
        clear hK K
        simp only [Act.put, List.setIfInBounds_toArray, List.set_cons_succ, List.set_cons_zero]
        refine BigFrame.wpQuiet_want (by rfl) (fun K hK => quiet_val (v := .agg #[.slice Ax N capx, .int .i64 BD]) (fun w' hw => ?_) (hK _ ?_))
        · have e0 := kc hw b0
          have e1 := kc hw b1
          clear a0 a1 b0 b1 hK K
          go_simp
        clear hK K
        simp only [Act.put, List.setIfInBounds_toArray, List.set_cons_succ, List.set_cons_zero]
        refine BigFrame.wpQuiet_want (by rfl) (fun K hK => quiet_val (v := .slice (some ⟨bv, offv, none⟩) 12 capv) (fun w' hw => ?_) (hK _ ?_))
        · clear a0 a1 b0 b1 hK K
          go_simp
        clear hK K
        simp only [Act.put, List.setIfInBounds_toArray, List.set_cons_succ, List.set_cons_zero]
        refine BigFrame.wpQuiet_want (by rfl) (fun K hK => quiet_enter (v := .bool (evalV N C L BD 12 v)) (f := 22) (args := #[.agg #[.slice Ax N capx, .int .i64 BD], .slice (some ⟨bv, offv, none⟩) 12 capv]) (fun w' hw => ?_) (fun w' hw => ?_) (hK _ ?_))
        · go_simp
        · refine (implEval_any _ _ _ _ _ _ _ C L v _ hN (Hx_8.out.later hw) (Hv_8.out.later hw)).mono ?_
          rintro e w8 ⟨rfl, hb⟩
          exact ⟨rfl, bl_trans hw hb⟩
        clear hK K
        simp only [Act.put, List.setIfInBounds_toArray, List.set_cons_succ, List.set_cons_zero]
        refine BigFrame.wpQuiet_want (by rfl) (fun K hK => quiet_val (v := .bool true) (fun w' hw => ?_) (hK _ ?_))
        · clear a0 a1 b0 b1 hK K
          go_simp
        clear hK K
        simp only [Act.put, List.setIfInBounds_toArray, List.set_cons_succ, List.set_cons_zero]
        refine BigFrame.wpQuiet_want (by rfl) (fun K hK => quiet_val (v := .bool true) (fun w' hw => ?_) (hK _ ?_))
        · clear a0 a1 b0 b1 hK K
          go_simp
        clear hK K
        simp only [Act.put, List.setIfInBounds_toArray, List.set_cons_succ, List.set_cons_zero]
        refine BigFrame.wpQuiet_want (by rfl) (fun K hK => quiet_val (v := .bool true) (fun w' hw => ?_) (hK _ ?_))
        · clear a0 a1 b0 b1 hK K
          go_simp
        clear hK K
        simp only [Act.put, List.setIfInBounds_toArray, List.set_cons_succ, List.set_cons_zero]
        refine wpQuiet_nil ?_
        intro w' hw'
        have HBw := Lib.hid (bl_trans HB8.out hw')
        clear hw'
        go_wp2
        go_ret
        exact ⟨rfl, HBw.out⟩
      | true =>
        have HEx := Lib.hid (HE.out hev)
        have Hev := Lib.hid hev
        clear hev HE
        refine region_class (C := Cls w8) (by kernel_rfl) (by kernel_rfl) (Below.refl w8.heap.size w8).drew ?_
        refine BigFrame.wpQuiet_want (by rfl) (fun K hK => quiet_val (v := .agg #[.slice Ax N capx, .int .i64 BD]) (fun w' hw => ?_) (hK _ ?_))
        · have e0 := kc hw b0
          have e1 := kc hw b1
          clear a0 a1 b0 b1 hK K
          go_simp
        clear hK K
        simp only [Act.put, List.setIfInBounds_toArray, List.set_cons_succ, List.set_cons_zero]
        refine BigFrame.wpQuiet_want (by rfl) (fun K hK => quiet_enter (v := .bool true) (f := 21) (args := #[.agg #[.slice Ax N capx, .int .i64 BD]]) (fun w' hw => ?_) (fun w' hw => ?_) (hK _ ?_))
        · go_simp
        · refine (implValid_any _ _ _ _ C L _ hN (Hx_8.out.later hw)).mono ?_
          rintro e w8 ⟨rfl, hb⟩
          exact ⟨by rw [HV.out], bl_trans hw hb⟩
        clear hK K
        simp only [Act.put, List.setIfInBounds_toArray, List.set_cons_succ, List.set_cons_zero]
        refine BigFrame.wpQuiet_want (by rfl) (fun K hK => quiet_val (v := .bool true) (fun w' hw => ?_) (hK _ ?_))
        · clear a0 a1 b0 b1 hK K
          go_simp
        clear hK K
        simp only [Act.put, List.setIfInBounds_toArray, List.set_cons_succ, List.set_cons_zero]
        refine BigFrame.wpQuiet_want (by rfl) (fun K hK => quiet_val (v := .agg #[.slice Ac k capc, .int .i64 bd]) (fun w' hw => ?_) (hK _ ?_))
        · have e0 := kc hw a0
          have e1 := kc hw a1
          clear a0 a1 b0 b1 hK K
          go_simp
        clear hK K
        simp only [Act.put, List.setIfInBounds_toArray, List.set_cons_succ, List.set_cons_zero]
        refine BigFrame.wpQuiet_want (by rfl) (fun K hK => quiet_val (v := .slice (some ⟨bv, offv, none⟩) 12 capv) (fun w' hw => ?_) (hK _ ?_))
        · clear a0 a1 b0 b1 hK K
          go_simp
        clear hK K
        simp only [Act.put, List.setIfInBounds_toArray, List.set_cons_succ, List.set_cons_zero]
        refine BigFrame.wpQuiet_want (by rfl) (fun K hK => quiet_enter (v := .bool (true)) (f := 22) (args := #[.agg #[.slice Ac k capc, .int .i64 bd], .slice (some ⟨bv, offv, none⟩) 12 capv]) (fun w' hw => ?_) (fun w' hw => ?_) (hK _ ?_))
        · go_simp
        · refine (implEval_any _ _ _ _ _ _ _ c l v _ hkB (Hc_8.out.later hw) (Hv_8.out.later hw)).mono ?_
          rintro e w8 ⟨rfl, hb⟩
          exact ⟨by rw [Hev.out], bl_trans hw hb⟩
        clear hK K
        simp only [Act.put, List.setIfInBounds_toArray, List.set_cons_succ, List.set_cons_zero]
        refine BigFrame.wpQuiet_want (by rfl) (fun K hK => quiet_val (v := .bool false) (fun w' hw => ?_) (hK _ ?_))
        · clear a0 a1 b0 b1 hK K
          go_simp
        clear hK K
        simp only [Act.put, List.setIfInBounds_toArray, List.set_cons_succ, List.set_cons_zero]
        refine BigFrame.wpQuiet_want (by rfl) (fun K hK => quiet_val (v := .bool false) (fun w' hw => ?_) (hK _ ?_))
        · clear a0 a1 b0 b1 hK K
          go_simp
        clear hK K
        simp only [Act.put, List.setIfInBounds_toArray, List.set_cons_succ, List.set_cons_zero]
        refine BigFrame.wpQuiet_want (by rfl) (fun K hK => quiet_val (v := .agg #[.slice Ax N capx, .int .i64 BD]) (fun w' hw => ?_) (hK _ ?_))
        · have e0 := kc hw b0
          have e1 := kc hw b1
          clear a0 a1 b0 b1 hK K
          go_simp
        clear hK K
        simp only [Act.put, List.setIfInBounds_toArray, List.set_cons_succ, List.set_cons_zero]
        refine BigFrame.wpQuiet_want (by rfl) (fun K hK => quiet_val (v := .slice (some ⟨bv, offv, none⟩) 12 capv) (fun w' hw => ?_) (hK _ ?_))
        · clear a0 a1 b0 b1 hK K
          go_simp
        clear hK K
        simp only [Act.put, List.setIfInBounds_toArray, List.set_cons_succ, List.set_cons_zero]
        refine BigFrame.wpQuiet_want (by rfl) (fun K hK => quiet_enter (v := .bool (true)) (f := 22) (args := #[.agg #[.slice Ax N capx, .int .i64 BD], .slice (some ⟨bv, offv, none⟩) 12 capv]) (fun w' hw => ?_) (fun w' hw => ?_) (hK _ ?_))
        · go_simp
        · refine (implEval_any _ _ _ _ _ _ _ C L v _ hN (Hx_8.out.later hw) (Hv_8.out.later hw)).mono ?_
          rintro e w8 ⟨rfl, hb⟩
          exact ⟨by rw [HEx.out], bl_trans hw hb⟩
        clear hK K
        simp only [Act.put, List.setIfInBounds_toArray, List.set_cons_succ, List.set_cons_zero]
        refine BigFrame.wpQuiet_want (by rfl) (fun K hK => quiet_val (v := .bool true) (fun w' hw => ?_) (hK _ ?_))
        · clear a0 a1 b0 b1 hK K
          go_simp
        clear hK K
        simp only [Act.put, List.setIfInBounds_toArray, List.set_cons_succ, List.set_cons_zero]
        refine BigFrame.wpQuiet_want (by rfl) (fun K hK => quiet_val (v := .bool true) (fun w' hw => ?_) (hK _ ?_))
        · clear a0 a1 b0 b1 hK K
          go_simp
        clear hK K
        simp only [Act.put, List.setIfInBounds_toArray, List.set_cons_succ, List.set_cons_zero]
        refine BigFrame.wpQuiet_want (by rfl) (fun K hK => quiet_val (v := .bool true) (fun w' hw => ?_) (hK _ ?_))
        · clear a0 a1 b0 b1 hK K
          go_simp
        clear hK K
        simp only [Act.put, List.setIfInBounds_toArray, List.set_cons_succ, List.set_cons_zero]
        refine BigFrame.wpQuiet_want (by rfl) (fun K hK => quiet_val (v := .agg #[.slice Ax N capx, .int .i64 BD]) (fun w' hw => ?_) (hK _ ?_))
        · have e0 := kc hw b0
          have e1 := kc hw b1
          clear a0 a1 b0 b1 hK K
          go_simp
        clear hK K
        simp only [Act.put, List.setIfInBounds_toArray, List.set_cons_succ, List.set_cons_zero]
        refine BigFrame.wpQuiet_want (by rfl) (fun K hK => quiet_val (v := .slice (some ⟨g, 0, none⟩) 12 cap1) (fun w' hw => ?_) (hK _ ?_))
        · clear a0 a1 b0 b1 hK K
          go_simp
        clear hK K
        simp only [Act.put, List.setIfInBounds_toArray, List.set_cons_succ, List.set_cons_zero]
        refine BigFrame.wpQuiet_want (by rfl) (fun K hK => quiet_enter (v := .bool (true)) (f := 22) (args := #[.agg #[.slice Ax N capx, .int .i64 BD], .slice (some ⟨g, 0, none⟩) 12 cap1]) (fun w' hw => ?_) (fun w' hw => ?_) (hK _ ?_))
        · go_simp
        · refine (implEval_any _ _ _ _ _ _ _ C L _ _ hN (Hx_8.out.later hw) (HO_8.out.later hw)).mono ?_
          rintro e w8 ⟨rfl, hb⟩
          exact ⟨by rw [HXi.out, HEx.out], bl_trans hw hb⟩
        clear hK K
        simp only [Act.put, List.setIfInBounds_toArray, List.set_cons_succ, List.set_cons_zero]
        refine BigFrame.wpQuiet_want (by rfl) (fun K hK => quiet_val (v := .agg #[.slice Ax N capx, .int .i64 BD]) (fun w' hw => ?_) (hK _ ?_))
        · have e0 := kc hw b0
          have e1 := kc hw b1
          clear a0 a1 b0 b1 hK K
          go_simp
        clear hK K
        simp only [Act.put, List.setIfInBounds_toArray, List.set_cons_succ, List.set_cons_zero]
        refine BigFrame.wpQuiet_want (by rfl) (fun K hK => quiet_val (v := .slice (some ⟨bv, offv, none⟩) 12 capv) (fun w' hw => ?_) (hK _ ?_))
        · clear a0 a1 b0 b1 hK K
          go_simp
        clear hK K
        simp only [Act.put, List.setIfInBounds_toArray, List.set_cons_succ, List.set_cons_zero]
        refine BigFrame.wpQuiet_want (by rfl) (fun K hK => quiet_enter (v := .bool (true)) (f := 22) (args := #[.agg #[.slice Ax N capx, .int .i64 BD], .slice (some ⟨bv, offv, none⟩) 12 capv]) (fun w' hw => ?_) (fun w' hw => ?_) (hK _ ?_))
        · go_simp
        · refine (implEval_any _ _ _ _ _ _ _ C L v _ hN (Hx_8.out.later hw) (Hv_8.out.later hw)).mono ?_
          rintro e w8 ⟨rfl, hb⟩
          exact ⟨by rw [HEx.out], bl_trans hw hb⟩
        clear hK K
        simp only [Act.put, List.setIfInBounds_toArray, List.set_cons_succ, List.set_cons_zero]
        refine BigFrame.wpQuiet_want (by rfl) (fun K hK => quiet_val (v := .bool true) (fun w' hw => ?_) (hK _ ?_))
        · clear a0 a1 b0 b1 hK K
          go_simp
        clear hK K
        simp only [Act.put, List.setIfInBounds_toArray, List.set_cons_succ, List.set_cons_zero]
        refine BigFrame.wpQuiet_want (by rfl) (fun K hK => quiet_val (v := .bool true) (fun w' hw => ?_) (hK _ ?_))
        · clear a0 a1 b0 b1 hK K
          go_simp
        clear hK K
        simp only [Act.put, List.setIfInBounds_toArray, List.set_cons_succ, List.set_cons_zero]
        refine BigFrame.wpQuiet_want (by rfl) (fun K hK => quiet_val (v := .bool true) (fun w' hw => ?_) (hK _ ?_))
        · clear a0 a1 b0 b1 hK K
          go_simp
        clear hK K
        simp only [Act.put, List.setIfInBounds_toArray, List.set_cons_succ, List.set_cons_zero]
        refine wpQuiet_nil ?_
        intro w' hw'
        have HBw := Lib.hid (bl_trans HB8.out hw')
        clear hw'
        go_wp2
        go_ret
        exact ⟨rfl, HBw.out⟩
    · have hnd : ((kv : Int) != 12) = true := by rw [bne_iff_ne]; omega
      clear h12 hk1 hk2 HXu HE HV
      clear Hc_5 Hv_5
      clear a0 a1 za
      go_wp2_with fail
      refine (implSame_any _ _ _ _ _ _ _ _ C L C L _ hN Hx_5.out Hs_5.out).mono ?_
      rintro e w6 ⟨rfl, hb⟩
      have HB6 := Lib.hid (bl_trans HB5.out hb)
      replace b0 := kc hb b0
      replace b1 := kc hb b1
      replace d0 := kc hb d0
      replace d1 := kc hb d1
      clear zb zd
      have zb : w3.heap.size < w6.heap.size := World.block_lt_of_cell? w6 ⟨w3.heap.size, 0, none⟩ b0
      have zd : w4.heap.size < w6.heap.size := World.block_lt_of_cell? w6 ⟨w4.heap.size, 0, none⟩ d0
      clear hb HB5 Hx_5 Hs_5
      rw [HSame.out]
      go_wp2
      go_ret
      exact ⟨rfl, HB6.out⟩

set_option linter.unusedVariables false in
set_option maxRecDepth 100000 in
set_option maxHeartbeats 1600000 in
theorem lawFnWeakenConstraint_walk (A0 : Option Addr) (n0 cap0 : Nat) (y0 : Nat → Int) (A1 : Option Addr) (n1 cap1 : Nat) (y1 : Nat → Int) (w : World) (hm0 : n0 ≤ maxLen) (hc0 : n0 ≤ cap0) (hr0 : RdY w w.heap.size A0 n0 y0) (hm1 : n1 ≤ maxLen) (hc1 : n1 ≤ cap1) (hr1 : RdY w w.heap.size A1 n1 y1) :
    Calls Try.prog 11 #[.slice A0 n0 cap0, .slice A1 n1 cap1] w fun e w' => e = .returned (.bool true) ∧ Below w.heap.size w w' := by
  by_cases h0 : n0 ≤ 1048576
  · by_cases h1 : n1 ≤ 1048576
    · exact lawFnWeakenConstraint_ok A0 A1 n0 cap0 n1 cap1 y0 y1 w h0 h1 hc0 hr0 hc1 hr1
    · unfold maxLen at hm1
      have hi0 : ¬ (1048576 : Int) < (n0 : Int) := by omega
      have hi1 : (1048576 : Int) < (n1 : Int) := by omega
      go_enter Try.func11, Try.ntmps11
      go_wp2
      go_ret
      exact ⟨rfl, Below.refl _ _⟩
  · unfold maxLen at hm0
    have hi0 : (1048576 : Int) < (n0 : Int) := by omega
    go_enter Try.func11, Try.ntmps11
    go_wp2
    go_ret
    exact ⟨rfl, Below.refl _ _⟩
end Go.Proofs.Ytipblbcedkhmbaa
