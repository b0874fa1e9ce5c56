/- The walk of the law FnEvalConstraint (no claim of its own). Conditions: as each theorem states. -/
import Derived.Test.YtfgmkaajcbmlmaaEvlA
import Derived.Test.YtfgmkaajcbmlmaaDrwL
import Derived.BigQuiet
namespace Go.Proofs.Ytfgmkaajcbmlmaa
open Go.ChangeShapes Go.WideShapes Go.ChangeAt Go.RowKit Go.Shelf

set_option maxRecDepth 100000 in
set_option maxHeartbeats 6400000 in
theorem lawFnEvalConstraint_ok (A0 A1 : Option Addr) (n0 cap0 n1 cap1 : Nat) (y0 : Nat → Int) (w : World) (h0 : n0 ≤ 1048576) (h1 : n1 ≤ 1048576) (hc0 : n0 ≤ cap0) (hr0 : RdY w w.heap.size A0 n0 y0) :
    Calls Try.prog 7 #[.slice A0 n0 cap0, .slice A1 n1 cap1] w fun e w' => e = .returned (.bool true) ∧ Below w.heap.size w w' := by
  have hm0 : n0 ≤ maxLen := by unfold maxLen; omega
  have hi0 : ¬ (1048576 : Int) < (n0 : Int) := by omega
  have hi1 : ¬ (1048576 : Int) < (n1 : Int) := by omega
  go_enter Try.func7, Try.ntmps7
  go_wp2_with fail
  refine (drawEval_any _ _ _ y0 _ hm0 hc0 hr0).mono ?_
  rintro e w1 ⟨Ac, k, capc, bd, c, l, Av, kv, capv, v, rfl, hk, hkv, hrc, hrv, hb⟩
  have HB1 := Lib.hid hb
  have Hc := Lib.hid hrc
  have Hv := Lib.hid hrv
  clear hb hrc hrv
  have hkB : k ≤ 1048576 := by omega
  go_wp2_with fail
  have HAl := Lib.hid (bl_alloc (Below.refl w1.heap.size w1) (.cells #[.slice Ac k capc, .int .i64 bd] 25))
  have a0 : (w1.alloc (.cells #[.slice Ac k capc, .int .i64 bd] 25)).cell? ⟨w1.heap.size, 0, none⟩ = some (.slice Ac k capc) := by go_simp
  have a1 : (w1.alloc (.cells #[.slice Ac k capc, .int .i64 bd] 25)).cell? ⟨w1.heap.size, 1, none⟩ = some (.int .i64 bd) := by go_simp
  refine (implEval_any _ _ _ _ _ _ _ c l v _ hkB (Hc.out.later HAl.out) (Hv.out.later HAl.out)).mono ?_
  rintro e w2 ⟨rfl, hb1⟩
  have hb := bl_trans HAl.out hb1
  have HB2 := Lib.hid (bl_trans HB1.out hb)
  have Hc2 := Lib.hid (Hc.out.later hb)
  have Hv2 := Lib.hid (Hv.out.later hb)
  replace a0 := kc hb1 a0
  replace a1 := kc hb1 a1
  clear hb hb1 HB1 Hc Hv HAl
  go_wp2_with fail
  refine (specEval_any _ _ _ _ _ _ _ c l v _ hkB Hc2.out Hv2.out).mono ?_
  rintro e w3 ⟨rfl, hb⟩
  have HB3 := Lib.hid (bl_trans HB2.out hb)
  have Hc3 := Lib.hid (Hc2.out.later hb)
  have Hv3 := Lib.hid (Hv2.out.later hb)
  replace a0 := kc hb a0
  replace a1 := kc hb a1
  clear hb HB2 Hc2 Hv2
  cases hev : evalV k c l bd kv v with
  | true =>
    have Hev := Lib.hid hev
    clear hev
    go_wp2_with fail
    refine (specEval_any _ _ _ _ _ _ _ c l v _ hkB Hc3.out Hv3.out).mono ?_
    rintro e w4 ⟨rfl, hb⟩
    have HB4 := Lib.hid (bl_trans HB3.out hb)
    clear hb
    rw [Hev.out]
    go_wp2
    go_ret
    exact ⟨rfl, HB4.out⟩
  | false =>
    have Hev := Lib.hid hev
    clear hev
    go_wp2_with fail
    refine (implValid_any _ _ _ _ c l _ hkB Hc3.out).mono ?_
    rintro e w4 ⟨rfl, hb⟩
    have HB4 := Lib.hid (bl_trans HB3.out hb)
    have Hc4 := Lib.hid (Hc3.out.later hb)
    have Hv4 := Lib.hid (Hv3.out.later hb)
    replace a0 := kc hb a0
    replace a1 := kc hb a1
    clear hb HB3 Hc3 Hv3
    cases hval : validB k c l bd with
    | false =>
      clear hval
      go_wp2_with fail
      refine (specEval_any _ _ _ _ _ _ _ c l v _ hkB Hc4.out Hv4.out).mono ?_
      rintro e w5 ⟨rfl, hb⟩
      have HB5 := Lib.hid (bl_trans HB4.out hb)
      clear hb
      rw [Hev.out]
      go_wp2
      go_ret
      exact ⟨rfl, HB5.out⟩
    | true =>
      have Hval := Lib.hid hval
      clear hval
      by_cases h12 : kv = 12
      · subst h12
        by_cases hz : k = 0
        · have hzd : ((k : Int) == 0) = true := by rw [beq_iff_eq]; omega
          have Hz := Lib.hid hz
          clear hz
          go_wp2_with fail
          refine (specEval_any _ _ _ _ _ _ _ c l v _ hkB Hc4.out Hv4.out).mono ?_
          rintro e w5 ⟨rfl, hb⟩
          have HB5 := Lib.hid (bl_trans HB4.out hb)
          clear hb
          rw [Hev.out]
          go_wp2
          go_ret
          exact ⟨rfl, HB5.out⟩
        · obtain ⟨j, hmod, hj⟩ : ∃ j : Nat, Int.tmod (n1 : Int) (k : Int) = (j : Int) ∧ j < k := ⟨n1 % k, by rw [Int.tmod_eq_emod_of_nonneg (by omega)]; simp, Nat.mod_lt _ (by omega)⟩
          have hzd : ((k : Int) == 0) = false := by rw [beq_eq_false_iff_ne]; omega
          have hkz : ¬ (k : Int) = 0 := by omega
          obtain ⟨hl0, hl1, hl2⟩ := litB_iff.1 (litAt Hval.out hj)
          obtain ⟨bt, offt, rfl, hbt, hct⟩ := Hc4.out (by omega)
          obtain ⟨hct1, hct2⟩ := hct j hj
          obtain ⟨bv, offv, rfl, hbv, hcv⟩ := Hv4.out (by omega)
          have Hcv := Lib.hid hcv
          have hwj : IntKind.i64.wrap (j : Int) = j := IntWalk.i64_in _ (by omega)
          have hj0 : (0 : Int) ≤ (j : Int) := by omega
          have hjk : (j : Int) < (k : Int) := by omega
          clear hct hct1 hcv hbt hbv
          have hab := Lib.hid (rfl : ab (l j) = ab (l j))
          rcases (show 0 < l j ∨ l j < 0 by omega) with hp | hn
          · obtain ⟨ix, hix, hlit⟩ : ∃ ix : Nat, ix < 12 ∧ l j = (ix : Int) + 1 := ⟨(l j - 1).toNat, by omega, by omega⟩
            have hw := worse_false (v := v) hkB Hval.out hj (ix := ix) (by rw [hlit]; unfold ab; rw [if_neg (by omega)]) (z := false) (by rw [hlit]; unfold trueP; rw [if_pos (by omega)]; exact if_pos (by omega)) Hev.out
            have Hw := Lib.hid hw
            have Hlit := Lib.hid hlit
            rw [hlit] at hct2
            clear hlit hw hp hl0 hl1 hl2 hab
            go_wp2_with fail
            go_quiet (fail)
            have hbq : Below w4.heap.size w4 (w4.drewN nq) := bl_drewN (Below.refl _ _) _
            have HB5 := Lib.hid (bl_trans HB4.out hbq)
            have Hc5 := Lib.hid (Hc4.out.later hbq)
            have b0 := kc hbq a0
            have b1 := kc hbq a1
            have Hcv5 := Lib.hid (fun i (hi : i < 12) => kc hbq (Hcv.out i hi))
            clear a0 a1 hbq HB4 Hc4 Hv4 Hcv
            generalize w4.drewN nq = w5 at *
            have zr : w1.heap.size < w5.heap.size := World.block_lt_of_cell? w5 ⟨w1.heap.size, 0, none⟩ b0
            have Hown := Lib.hid (show (w5.alloc (.cells #[] 4)).ownsRow w5.heap.size 4 1 (.slice (some ⟨w5.heap.size, 0, none⟩) 0 0) 0 [] from (rowAt_lit w5 4).own)
            have HcA := Lib.hid (fun j (hj : j < 12) => kc (bl_alloc (Below.refl w5.heap.size w5) (.cells #[] 4)) (Hcv5.out j hj))
            go_wp2_with (at_builtin; refine wpList_plain (by rfl) fun K' hK' => ?_; refine wp_appB12 _ _ (by rfl) (by rfl) (B0 := w5.heap.size) (by rfl) (by rfl) Hown.out (by intro j hj; cases hj; exact Nat.le_refl _) HcA.out (by simp) ?_; intro g cap1 w7 hg1 hov hb7; have hbx := Lib.hid ((bl_alloc (Below.refl w5.heap.size w5) (.cells #[] 4)).trans hb7); have hu0 := hov.cell hix; have hf0 := hov.frozen ix; have d0 := kc hbx.out b0; have d1 := kc hbx.out b1; have hgne : ¬ g = w1.heap.size := (by omega); have hgne2 : ¬ w1.heap.size = g := (by omega); have Hov := Lib.hid hov; have Hg1 := Lib.hid hg1; clear hb7 hov hg1; refine hK' _ _ ?_; clear hK' K')
            refine (implEval_any _ _ _ _ _ _ _ c l _ _ hkB (Hc5.out.later (hbx.out.setCell Hg1.out _)) (Hov.out.upd hix false).rdAt).mono ?_
            rintro e w8 ⟨rfl, hb8⟩
            have HB8 := Lib.hid (bl_trans (bl_trans HB5.out (hbx.out.setCell Hg1.out _)) hb8)
            clear hb8
            rw [Hw.out]
            go_wp2
            go_ret
            exact ⟨rfl, HB8.out⟩
          · obtain ⟨ix, hix, hlit⟩ : ∃ ix : Nat, ix < 12 ∧ l j = -((ix : Int) + 1) := ⟨(-l j - 1).toNat, by omega, by omega⟩
            have hw := worse_false (v := v) hkB Hval.out hj (ix := ix) (by rw [hlit]; unfold ab; rw [if_pos (by omega)]; omega) (z := true) (by rw [hlit]; unfold trueP; rw [if_neg (by omega)]; exact congrArg (!·) (if_pos (by omega))) Hev.out
            have hw1 : IntKind.i64.wrap (- -((ix : Int) + 1)) = (ix : Int) + 1 := by rw [IntWalk.i64_in _ (by omega)]; omega
            have Hw := Lib.hid hw
            have Hlit := Lib.hid hlit
            rw [hlit] at hct2
            clear hlit hw hn hl0 hl1 hl2 hab
            go_wp2_with fail
            go_quiet (fail)
            have hbq : Below w4.heap.size w4 (w4.drewN nq) := bl_drewN (Below.refl _ _) _
            have HB5 := Lib.hid (bl_trans HB4.out hbq)
            have Hc5 := Lib.hid (Hc4.out.later hbq)
            have b0 := kc hbq a0
            have b1 := kc hbq a1
            have Hcv5 := Lib.hid (fun i (hi : i < 12) => kc hbq (Hcv.out i hi))
            clear a0 a1 hbq HB4 Hc4 Hv4 Hcv
            generalize w4.drewN nq = w5 at *
            have zr : w1.heap.size < w5.heap.size := World.block_lt_of_cell? w5 ⟨w1.heap.size, 0, none⟩ b0
            have Hown := Lib.hid (show (w5.alloc (.cells #[] 4)).ownsRow w5.heap.size 4 1 (.slice (some ⟨w5.heap.size, 0, none⟩) 0 0) 0 [] from (rowAt_lit w5 4).own)
            have HcA := Lib.hid (fun j (hj : j < 12) => kc (bl_alloc (Below.refl w5.heap.size w5) (.cells #[] 4)) (Hcv5.out j hj))
            go_wp2_with (at_builtin; refine wpList_plain (by rfl) fun K' hK' => ?_; refine wp_appB12 _ _ (by rfl) (by rfl) (B0 := w5.heap.size) (by rfl) (by rfl) Hown.out (by intro j hj; cases hj; exact Nat.le_refl _) HcA.out (by simp) ?_; intro g cap1 w7 hg1 hov hb7; have hbx := Lib.hid ((bl_alloc (Below.refl w5.heap.size w5) (.cells #[] 4)).trans hb7); have hu0 := hov.cell hix; have hf0 := hov.frozen ix; have d0 := kc hbx.out b0; have d1 := kc hbx.out b1; have hgne : ¬ g = w1.heap.size := (by omega); have hgne2 : ¬ w1.heap.size = g := (by omega); have Hov := Lib.hid hov; have Hg1 := Lib.hid hg1; clear hb7 hov hg1; refine hK' _ _ ?_; clear hK' K')
            refine (implEval_any _ _ _ _ _ _ _ c l _ _ hkB (Hc5.out.later (hbx.out.setCell Hg1.out _)) (Hov.out.upd hix true).rdAt).mono ?_
            rintro e w8 ⟨rfl, hb8⟩
            have HB8 := Lib.hid (bl_trans (bl_trans HB5.out (hbx.out.setCell Hg1.out _)) hb8)
            clear hb8
            rw [Hw.out]
            go_wp2
            go_ret
            exact ⟨rfl, HB8.out⟩
      · have hnd : ((kv : Int) != 12) = true := by rw [bne_iff_ne]; omega
        clear h12
        go_wp2_with fail
        refine (specEval_any _ _ _ _ _ _ _ c l v _ hkB Hc4.out Hv4.out).mono ?_
        rintro e w5 ⟨rfl, hb⟩
        have HB5 := Lib.hid (bl_trans HB4.out hb)
        clear hb
        rw [Hev.out]
        go_wp2
        go_ret
        exact ⟨rfl, HB5.out⟩

set_option maxRecDepth 100000 in
set_option maxHeartbeats 1600000 in
theorem lawFnEvalConstraint_walk (A0 : Option Addr) (n0 cap0 : Nat) (y0 : Nat → Int) (A1 : Option Addr) (n1 cap1 : Nat) (y1 : Nat → Int) (w : World) (hm0 : n0 ≤ maxLen) (hc0 : n0 ≤ cap0) (hr0 : RdY w w.heap.size A0 n0 y0) (hm1 : n1 ≤ maxLen) (_ : n1 ≤ cap1) (_ : RdY w w.heap.size A1 n1 y1) :
    Calls Try.prog 7 #[.slice A0 n0 cap0, .slice A1 n1 cap1] w fun e w' => e = .returned (.bool true) ∧ Below w.heap.size w w' := by
  by_cases h0 : n0 ≤ 1048576
  · by_cases h1 : n1 ≤ 1048576
    · exact lawFnEvalConstraint_ok A0 A1 n0 cap0 n1 cap1 y0 w h0 h1 hc0 hr0
    · unfold maxLen at hm1
      have hi0 : ¬ (1048576 : Int) < (n0 : Int) := by omega
      have hi1 : (1048576 : Int) < (n1 : Int) := by omega
      go_enter Try.func7, Try.ntmps7
      go_wp2
      go_ret
      exact ⟨rfl, Below.refl _ _⟩
  · unfold maxLen at hm0
    have hi0 : (1048576 : Int) < (n0 : Int) := by omega
    go_enter Try.func7, Try.ntmps7
    go_wp2
    go_ret
    exact ⟨rfl, Below.refl _ _⟩
end Go.Proofs.Ytfgmkaajcbmlmaa
