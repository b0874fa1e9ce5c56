/- The walk of the law FnImpliedLiterals (no claim of its own). Conditions: as each theorem states. -/
import Derived.Test.YtfgmkaajcbmlmaaDrwM
namespace Go.Proofs.Ytfgmkaajcbmlmaa
open Go.ChangeShapes Go.WideShapes Go.ChangeAt Go.RowKit Go.Shelf

theorem qv_pos {v : Nat → Int} {ix j : Nat} : qv v ((ix : Int) + 1) j = if j = ix then -1 else v j := by
  unfold qv
  have hab : ab ((ix : Int) + 1) = (ix : Int) + 1 := by unfold ab; rw [if_neg (by omega)]
  rw [hab]
  by_cases e : j = ix
  · subst e; rw [if_pos rfl, if_pos rfl, if_pos (by omega)]
  · rw [if_neg e, if_neg (by omega)]
theorem qv_neg {v : Nat → Int} {ix j : Nat} : qv v (-((ix : Int) + 1)) j = if j = ix then 1 else v j := by
  unfold qv
  have hab : ab (-((ix : Int) + 1)) = (ix : Int) + 1 := by unfold ab; rw [if_pos (by omega)]; omega
  rw [hab]
  by_cases e : j = ix
  · subst e; rw [if_pos rfl, if_pos rfl, if_neg (by omega)]
  · rw [if_neg e, if_neg (by omega)]
theorem anyQ_succ (q : Nat → Bool) (j : Nat) : anyQ q (j + 1) = (anyQ q j || q j) := rfl

set_option maxRecDepth 100000 in
set_option maxHeartbeats 12800000 in
theorem lawFnImpliedLiterals_ok (A0 : Option Addr) (n0 cap0 : Nat) (y0 : Nat → Int) (w : World) (h0 : n0 ≤ 1048576) (hc0 : n0 ≤ cap0) (hr0 : RdY w w.heap.size A0 n0 y0) :
    Calls Try.prog 4 #[.slice A0 n0 cap0] w fun e w' => e = .returned (.bool true) ∧ Below w.heap.size w w' := by
  have hm0 : n0 ≤ maxLen := by unfold maxLen; omega
  have hi0 : ¬ (1048576 : Int) < (n0 : Int) := by omega
  go_enter Try.func4, Try.ntmps4
  go_wp2_with fail
  refine (drawImp_any _ _ _ y0 _ hm0 hc0 hr0).mono ?_
  rintro e w1 ⟨Ac, k, capc, bd, c, l, Av, kv, capv, v, rfl, hk, hkv, hfc, hfv, hb⟩
  have hkB : k ≤ 1048576 := by omega
  have hkvB : kv ≤ 1048576 := by omega
  have HB1 := Lib.hid hb
  have Hc1 := Lib.hid hfc.rdAt
  have Hv1 := Lib.hid hfv.rdAt
  have HLe := Lib.hid (impL_le (n := k) (c := c) (l := l) (bd := bd) (nv := kv) (v := v))
  clear hb hfc hfv
  go_wp2_with fail
  have HAl := Lib.hid (bl_alloc (Below.refl w1.heap.size w1) (.cells #[.slice Ac k capc, .int .i64 bd] 25))
  have a0 : (w1.alloc (.cells #[.slice Ac k capc, .int .i64 bd] 25)).cell? ⟨w1.heap.size, 0, none⟩ = some (.slice Ac k capc) := by go_simp
  have a1 : (w1.alloc (.cells #[.slice Ac k capc, .int .i64 bd] 25)).cell? ⟨w1.heap.size, 1, none⟩ = some (.int .i64 bd) := by go_simp
  refine (implImp_any _ _ _ _ _ _ _ c l v _ hkB hkvB (Hc1.out.later HAl.out) (Hv1.out.later HAl.out)).mono ?_
  rintro e w2 ⟨Al, capl, rfl, hfl, hb1⟩
  have hb := bl_trans HAl.out hb1
  have HB2 := Lib.hid (bl_trans HB1.out hb)
  have Hc2 := Lib.hid (Hc1.out.later hb)
  have Hv2 := Lib.hid (Hv1.out.later hb)
  have Hl2 := Lib.hid hfl.rdAt
  replace a0 := kc hb1 a0
  replace a1 := kc hb1 a1
  clear hb hb1 hfl HB1 Hc1 Hv1 HAl
  go_wp2_with fail
  refine (implSlack_any _ _ _ _ _ _ _ c l v _ hkB hkvB Hc2.out Hv2.out).mono ?_
  rintro e w3 ⟨rfl, hb⟩
  have HB3 := Lib.hid (bl_trans HB2.out hb)
  have Hc3 := Lib.hid (Hc2.out.later hb)
  have Hv3 := Lib.hid (Hv2.out.later hb)
  have Hl3 := Lib.hid (Hl2.out.later hb)
  replace a0 := kc hb a0
  replace a1 := kc hb a1
  clear hb HB2 Hc2 Hv2 Hl2
  go_wp2_with fail
  refine (specSlack_any _ _ _ _ _ _ _ c l v _ hkB hkvB Hc3.out Hv3.out).mono ?_
  rintro e w4 ⟨rfl, hb⟩
  have HB4 := Lib.hid (bl_trans HB3.out hb)
  have Hc4 := Lib.hid (Hc3.out.later hb)
  have Hv4 := Lib.hid (Hv3.out.later hb)
  have Hl4 := Lib.hid (Hl3.out.later hb)
  replace a0 := kc hb a0
  replace a1 := kc hb a1
  clear hb HB3 Hc3 Hv3 Hl3
  go_wp2_with fail
  refine (specImp_any _ _ _ _ _ _ _ c l v _ hkB hkvB Hc4.out Hv4.out).mono ?_
  rintro e w5 ⟨Aw, capw, rfl, hfw, hb⟩
  have HB5 := Lib.hid (bl_trans HB4.out hb)
  have Hc5 := Lib.hid (Hc4.out.later hb)
  have Hv5 := Lib.hid (Hv4.out.later hb)
  have Hl5 := Lib.hid (Hl4.out.later hb)
  replace a0 := kc hb a0
  replace a1 := kc hb a1
  have Hw5 := Lib.hid hfw.rdAt
  clear hfw
  clear hb HB4 Hc4 Hv4 Hl4
  go_wp2_with fail
  refine (cpInts_refl _ _ _ _ _ (gI (impL k c l bd kv v)) _ (by have := HLe.out; omega) Hl5.out Hw5.out).mono ?_
  rintro e w6 ⟨rfl, hb⟩
  have HB6 := Lib.hid (bl_trans HB5.out hb)
  have Hc6 := Lib.hid (Hc5.out.later hb)
  have Hv6 := Lib.hid (Hv5.out.later hb)
  have Hl6 := Lib.hid (Hl5.out.later hb)
  replace a0 := kc hb a0
  replace a1 := kc hb a1
  clear hb HB5 Hc5 Hv5 Hl5 Hw5
  by_cases hcase : slkOk k c l bd kv v = true ∧ 0 ≤ slk k c l bd v
  · obtain ⟨hok, hnn⟩ := hcase
    have hval : validB k c l bd = true := by unfold slkOk at hok; rw [Bool.and_eq_true] at hok; exact hok.1
    have hpv : pvB kv v = true := by unfold slkOk at hok; rw [Bool.and_eq_true] at hok; exact hok.2
    obtain ⟨h12, hvv⟩ := pvB_iff.1 hpv
    subst h12
    have hL := impL_yes hok (by omega)
    rw [hok, slk_yes hok]
    rw [hL] at Hl6 HLe ⊢
    have hd : decide (slk k c l bd v < 0) = false := by simpa using hnn
    have Hval := Lib.hid hval
    have HV := Lib.hid hvv
    have HNN := Lib.hid hnn
    generalize hLL : imL c l v (slk k c l bd v) k = L at *
    have HLL := Lib.hid hLL
    clear hok hval hpv hvv hL hnn hLL
    go_wp2
    go_loopw [10] (fun t wr => ∃ i : Nat, i ≤ k ∧ t = .int .i64 i ∧ Below w6.heap.size w6 wr) (fun t _ => k - (intOf t).toNat)
    case atStart => exact ⟨0, Nat.zero_le _, rfl, Below.refl _ _⟩
    case round =>
      obtain ⟨i, hi, rfl, hbel⟩ := hrel
      have HB := Lib.hid hbel
      have b0 := kc hbel a0
      have b1 := kc hbel a1
      have zr : w1.heap.size < wr.heap.size := World.block_lt_of_cell? wr ⟨w1.heap.size, 0, none⟩ b0
      have Hcr := Lib.hid (Hc6.out.later hbel)
      have Hvr := Lib.hid (Hv6.out.later hbel)
      have Hlr := Lib.hid (Hl6.out.later hbel)
      clear hbel
      by_cases hlt : i < k
      · have hlitv := litAt Hval.out hlt
        obtain ⟨hl0, hl1, hl2⟩ := litB_iff.1 hlitv
        have Himp := Lib.hid (implied_iff (v := v) Hval.out hlt)
        rw [HLL.out] at Himp
        obtain ⟨bt, offt, rfl, hbt, hct⟩ := Hcr.out (by omega)
        obtain ⟨hct1, hct2⟩ := hct i hlt
        clear hct
        have hLB : L.length ≤ 1048576 := by have := HLe.out; omega
        go_wp2
        go_loop [12, 13] (fun f t => ∃ j : Nat, j ≤ L.length ∧ t = .int .i64 j ∧ f = .bool (anyQ (fun j => gI L j == l i) j)) (fun _ t => L.length - (intOf t).toNat)
        case atStart => exact ⟨0, Nat.zero_le _, rfl, rfl⟩
        case round =>
          obtain ⟨j, hj, rfl, rfl⟩ := hrel
          by_cases hjl : j < L.length
          · obtain ⟨bl, offl, rfl, hbl, hcl⟩ := Hlr.out (by omega)
            have hcl1 := hcl j hjl
            have hsucc := Lib.hid (anyQ_succ (fun j => gI L j == l i) j)
            clear hcl
            cases hfl : anyQ (fun j => gI L j == l i) j with
            | true =>
              rw [hfl] at hsucc
              go_wp2
              go_round
              case rel => exact ⟨j + 1, by omega, by go_num, by rw [hsucc.out]; rfl⟩
              case measure => simp [intOf]; omega
            | false =>
              rw [hfl] at hsucc
              go_wp2
              go_round
              case rel => exact ⟨j + 1, by omega, by go_num, by rw [hsucc.out]; simp⟩
              case measure => simp [intOf]; omega
          · have e : j = L.length := by omega
            subst e
            have key : 0 < l i ∨ l i < 0 := by omega
            rcases key with hp | hn
            · obtain ⟨ix, hix, hlit⟩ : ∃ ix : Nat, ix < 12 ∧ l i = ((ix : Int) + 1) := ⟨(l i - 1).toNat, by omega, by omega⟩
              have hq : ∀ j, j < 12 → (if j = ix then (-1 : Int) else v j) = qv v (l i) j := fun j _ => by rw [hlit, qv_pos]
              have hst : stV v (l i) = v ix := by
                unfold stV
                rw [hlit]
                rw [if_pos (by omega)]; congr 1; omega
              have hok' : slkOk k c l bd 12 (qv v (l i)) = true := by
                unfold slkOk
                rw [Hval.out, Bool.true_and, pvB_iff]
                exact ⟨rfl, qv_bd HV.out⟩
              have Hiff := Himp.out
              generalize qv v (l i) = qq at *
              have Hq := Lib.hid hq
              have Hok' := Lib.hid hok'
              have hpos : 0 < l i := by omega
              obtain ⟨bv, offv, rfl, hbv, hcv⟩ := Hvr.out (by omega)
              clear hq hok' hbt hct1 hct2 hlitv hl0 hl1 hl2 Himp
              by_cases hz : v ix = 0
              · by_cases hw : slk k c l bd qq < 0
                · have hQ : anyQ (fun j => gI L j == l i) L.length = true := Hiff.2 ⟨by rw [hst]; omega, hw⟩
                  clear Hiff hst
                  rw [hQ]
                  clear hQ
                  have Hown := Lib.hid (show (wr.alloc (.cells #[] 3)).ownsRow wr.heap.size 3 1 (.slice (some ⟨wr.heap.size, 0, none⟩) 0 0) 0 [] from (rowAt_lit wr 3).own)
                  have HcA := Lib.hid (fun j (hj : j < 12) => kc (bl_alloc (Below.refl wr.heap.size wr) (.cells #[] 3)) (hcv j hj))
                  have Hcv := Lib.hid hcv
                  clear hcv
                  go_wp2_with (at_builtin; refine wpList_plain (by rfl) fun K' hK' => ?_; refine wp_app12 _ _ (by rfl) (by rfl) (B0 := wr.heap.size) (by rfl) (by rfl) Hown.out (by intro j hj; cases hj; exact Nat.le_refl _) HcA.out (by simp) ?_; intro g cap1 w7 hg1 hov hb7; have hbx := Lib.hid ((bl_alloc (Below.refl wr.heap.size wr) (.cells #[] 3)).trans hb7); have cv := kc hbx.out (Hcv.out ix hix); obtain ⟨u0, hu0⟩ := hov.cell hix; have hf0 := hov.frozen ix; have d0 := kc hbx.out b0; have d1 := kc hbx.out b1; have hgne : ¬ g = w1.heap.size := (by omega); have hgne2 : ¬ w1.heap.size = g := (by omega); have Hov := Lib.hid hov; have Hg1 := Lib.hid hg1; clear hb7 hov hg1; refine hK' _ _ ?_; clear hK' K')
                  refine (implSlack_any _ _ _ _ _ _ _ c l qq _ hkB hkvB (Hcr.out.later (hbx.out.setCell Hg1.out _)) (OwnV.same (Hov.out.upd hix (-1)) Hq.out).rdAt).mono ?_
                  rintro e w8 ⟨rfl, hb8⟩
                  have HB8 := Lib.hid (bl_trans (bl_trans HB.out (hbx.out.setCell Hg1.out _)) hb8)
                  clear hb8
                  rw [slk_yes Hok'.out, Hok'.out]
                  go_wp2
                  go_roundw
                  case rel => exact ⟨i + 1, by omega, by go_num, HB8.out⟩
                  case measure => simp [intOf]; omega
                · have hQ : anyQ (fun j => gI L j == l i) L.length = false := by
                    rw [← Bool.not_eq_true, Hiff]
                    exact fun h => hw h.2
                  have hwd : decide (slk k c l bd qq < 0) = false := by simpa using hw
                  clear Hiff hst hw
                  rw [hQ]
                  clear hQ
                  have Hown := Lib.hid (show (wr.alloc (.cells #[] 3)).ownsRow wr.heap.size 3 1 (.slice (some ⟨wr.heap.size, 0, none⟩) 0 0) 0 [] from (rowAt_lit wr 3).own)
                  have HcA := Lib.hid (fun j (hj : j < 12) => kc (bl_alloc (Below.refl wr.heap.size wr) (.cells #[] 3)) (hcv j hj))
                  have Hcv := Lib.hid hcv
                  clear hcv
                  go_wp2_with (at_builtin; refine wpList_plain (by rfl) fun K' hK' => ?_; refine wp_app12 _ _ (by rfl) (by rfl) (B0 := wr.heap.size) (by rfl) (by rfl) Hown.out (by intro j hj; cases hj; exact Nat.le_refl _) HcA.out (by simp) ?_; intro g cap1 w7 hg1 hov hb7; have hbx := Lib.hid ((bl_alloc (Below.refl wr.heap.size wr) (.cells #[] 3)).trans hb7); have cv := kc hbx.out (Hcv.out ix hix); obtain ⟨u0, hu0⟩ := hov.cell hix; have hf0 := hov.frozen ix; have d0 := kc hbx.out b0; have d1 := kc hbx.out b1; have hgne : ¬ g = w1.heap.size := (by omega); have hgne2 : ¬ w1.heap.size = g := (by omega); have Hov := Lib.hid hov; have Hg1 := Lib.hid hg1; clear hb7 hov hg1; refine hK' _ _ ?_; clear hK' K')
                  refine (implSlack_any _ _ _ _ _ _ _ c l qq _ hkB hkvB (Hcr.out.later (hbx.out.setCell Hg1.out _)) (OwnV.same (Hov.out.upd hix (-1)) Hq.out).rdAt).mono ?_
                  rintro e w8 ⟨rfl, hb8⟩
                  have HB8 := Lib.hid (bl_trans (bl_trans HB.out (hbx.out.setCell Hg1.out _)) hb8)
                  clear hb8
                  rw [slk_yes Hok'.out, Hok'.out]
                  go_wp2
                  go_roundw
                  case rel => exact ⟨i + 1, by omega, by go_num, HB8.out⟩
                  case measure => simp [intOf]; omega
              · have hQ : anyQ (fun j => gI L j == l i) L.length = false := by
                  rw [← Bool.not_eq_true, Hiff]
                  exact fun h => hz (by have := h.1; omega)
                have hzd : (v ix == 0) = false := by rw [beq_eq_false_iff_ne]; exact hz
                clear Hiff hst hz
                rw [hQ]
                clear hQ
                have Hown := Lib.hid (show (wr.alloc (.cells #[] 3)).ownsRow wr.heap.size 3 1 (.slice (some ⟨wr.heap.size, 0, none⟩) 0 0) 0 [] from (rowAt_lit wr 3).own)
                have HcA := Lib.hid (fun j (hj : j < 12) => kc (bl_alloc (Below.refl wr.heap.size wr) (.cells #[] 3)) (hcv j hj))
                have Hcv := Lib.hid hcv
                clear hcv
                go_wp2_with (at_builtin; refine wpList_plain (by rfl) fun K' hK' => ?_; refine wp_app12 _ _ (by rfl) (by rfl) (B0 := wr.heap.size) (by rfl) (by rfl) Hown.out (by intro j hj; cases hj; exact Nat.le_refl _) HcA.out (by simp) ?_; intro g cap1 w7 hg1 hov hb7; have hbx := Lib.hid ((bl_alloc (Below.refl wr.heap.size wr) (.cells #[] 3)).trans hb7); have cv := kc hbx.out (Hcv.out ix hix); obtain ⟨u0, hu0⟩ := hov.cell hix; have hf0 := hov.frozen ix; have d0 := kc hbx.out b0; have d1 := kc hbx.out b1; have hgne : ¬ g = w1.heap.size := (by omega); have hgne2 : ¬ w1.heap.size = g := (by omega); have Hov := Lib.hid hov; have Hg1 := Lib.hid hg1; clear hb7 hov hg1; refine hK' _ _ ?_; clear hK' K')
                refine (implSlack_any _ _ _ _ _ _ _ c l qq _ hkB hkvB (Hcr.out.later (hbx.out.setCell Hg1.out _)) (OwnV.same (Hov.out.upd hix (-1)) Hq.out).rdAt).mono ?_
                rintro e w8 ⟨rfl, hb8⟩
                have HB8 := Lib.hid (bl_trans (bl_trans HB.out (hbx.out.setCell Hg1.out _)) hb8)
                clear hb8
                rw [slk_yes Hok'.out, Hok'.out]
                go_wp2
                go_roundw
                case rel => exact ⟨i + 1, by omega, by go_num, HB8.out⟩
                case measure => simp [intOf]; omega
            · obtain ⟨ix, hix, hlit⟩ : ∃ ix : Nat, ix < 12 ∧ l i = (-((ix : Int) + 1)) := ⟨(-(l i) - 1).toNat, by omega, by omega⟩
              have hq : ∀ j, j < 12 → (if j = ix then (1 : Int) else v j) = qv v (l i) j := fun j _ => by rw [hlit, qv_neg]
              have hst : stV v (l i) = -(v ix) := by
                unfold stV
                rw [hlit]
                rw [if_neg (by omega)]; congr 2; omega
              have hok' : slkOk k c l bd 12 (qv v (l i)) = true := by
                unfold slkOk
                rw [Hval.out, Bool.true_and, pvB_iff]
                exact ⟨rfl, qv_bd HV.out⟩
              have Hiff := Himp.out
              generalize qv v (l i) = qq at *
              have Hq := Lib.hid hq
              have Hok' := Lib.hid hok'
              have hpos : ¬ 0 < l i := by omega
              obtain ⟨bv, offv, rfl, hbv, hcv⟩ := Hvr.out (by omega)
              clear hq hok' hbt hct1 hct2 hlitv hl0 hl1 hl2 Himp
              by_cases hz : v ix = 0
              · by_cases hw : slk k c l bd qq < 0
                · have hQ : anyQ (fun j => gI L j == l i) L.length = true := Hiff.2 ⟨by rw [hst]; omega, hw⟩
                  clear Hiff hst
                  rw [hQ]
                  clear hQ
                  have Hown := Lib.hid (show (wr.alloc (.cells #[] 3)).ownsRow wr.heap.size 3 1 (.slice (some ⟨wr.heap.size, 0, none⟩) 0 0) 0 [] from (rowAt_lit wr 3).own)
                  have HcA := Lib.hid (fun j (hj : j < 12) => kc (bl_alloc (Below.refl wr.heap.size wr) (.cells #[] 3)) (hcv j hj))
                  have Hcv := Lib.hid hcv
                  clear hcv
                  go_wp2_with (at_builtin; refine wpList_plain (by rfl) fun K' hK' => ?_; refine wp_app12 _ _ (by rfl) (by rfl) (B0 := wr.heap.size) (by rfl) (by rfl) Hown.out (by intro j hj; cases hj; exact Nat.le_refl _) HcA.out (by simp) ?_; intro g cap1 w7 hg1 hov hb7; have hbx := Lib.hid ((bl_alloc (Below.refl wr.heap.size wr) (.cells #[] 3)).trans hb7); have cv := kc hbx.out (Hcv.out ix hix); obtain ⟨u0, hu0⟩ := hov.cell hix; have hf0 := hov.frozen ix; have d0 := kc hbx.out b0; have d1 := kc hbx.out b1; have hgne : ¬ g = w1.heap.size := (by omega); have hgne2 : ¬ w1.heap.size = g := (by omega); have Hov := Lib.hid hov; have Hg1 := Lib.hid hg1; clear hb7 hov hg1; refine hK' _ _ ?_; clear hK' K')
                  refine (implSlack_any _ _ _ _ _ _ _ c l qq _ hkB hkvB (Hcr.out.later (hbx.out.setCell Hg1.out _)) (OwnV.same (Hov.out.upd hix (1)) Hq.out).rdAt).mono ?_
                  rintro e w8 ⟨rfl, hb8⟩
                  have HB8 := Lib.hid (bl_trans (bl_trans HB.out (hbx.out.setCell Hg1.out _)) hb8)
                  clear hb8
                  rw [slk_yes Hok'.out, Hok'.out]
                  go_wp2
                  go_roundw
                  case rel => exact ⟨i + 1, by omega, by go_num, HB8.out⟩
                  case measure => simp [intOf]; omega
                · have hQ : anyQ (fun j => gI L j == l i) L.length = false := by
                    rw [← Bool.not_eq_true, Hiff]
                    exact fun h => hw h.2
                  have hwd : decide (slk k c l bd qq < 0) = false := by simpa using hw
                  clear Hiff hst hw
                  rw [hQ]
                  clear hQ
                  have Hown := Lib.hid (show (wr.alloc (.cells #[] 3)).ownsRow wr.heap.size 3 1 (.slice (some ⟨wr.heap.size, 0, none⟩) 0 0) 0 [] from (rowAt_lit wr 3).own)
                  have HcA := Lib.hid (fun j (hj : j < 12) => kc (bl_alloc (Below.refl wr.heap.size wr) (.cells #[] 3)) (hcv j hj))
                  have Hcv := Lib.hid hcv
                  clear hcv
                  go_wp2_with (at_builtin; refine wpList_plain (by rfl) fun K' hK' => ?_; refine wp_app12 _ _ (by rfl) (by rfl) (B0 := wr.heap.size) (by rfl) (by rfl) Hown.out (by intro j hj; cases hj; exact Nat.le_refl _) HcA.out (by simp) ?_; intro g cap1 w7 hg1 hov hb7; have hbx := Lib.hid ((bl_alloc (Below.refl wr.heap.size wr) (.cells #[] 3)).trans hb7); have cv := kc hbx.out (Hcv.out ix hix); obtain ⟨u0, hu0⟩ := hov.cell hix; have hf0 := hov.frozen ix; have d0 := kc hbx.out b0; have d1 := kc hbx.out b1; have hgne : ¬ g = w1.heap.size := (by omega); have hgne2 : ¬ w1.heap.size = g := (by omega); have Hov := Lib.hid hov; have Hg1 := Lib.hid hg1; clear hb7 hov hg1; refine hK' _ _ ?_; clear hK' K')
                  refine (implSlack_any _ _ _ _ _ _ _ c l qq _ hkB hkvB (Hcr.out.later (hbx.out.setCell Hg1.out _)) (OwnV.same (Hov.out.upd hix (1)) Hq.out).rdAt).mono ?_
                  rintro e w8 ⟨rfl, hb8⟩
                  have HB8 := Lib.hid (bl_trans (bl_trans HB.out (hbx.out.setCell Hg1.out _)) hb8)
                  clear hb8
                  rw [slk_yes Hok'.out, Hok'.out]
                  go_wp2
                  go_roundw
                  case rel => exact ⟨i + 1, by omega, by go_num, HB8.out⟩
                  case measure => simp [intOf]; omega
              · have hQ : anyQ (fun j => gI L j == l i) L.length = false := by
                  rw [← Bool.not_eq_true, Hiff]
                  exact fun h => hz (by have := h.1; omega)
                have hzd : (v ix == 0) = false := by rw [beq_eq_false_iff_ne]; exact hz
                clear Hiff hst hz
                rw [hQ]
                clear hQ
                have Hown := Lib.hid (show (wr.alloc (.cells #[] 3)).ownsRow wr.heap.size 3 1 (.slice (some ⟨wr.heap.size, 0, none⟩) 0 0) 0 [] from (rowAt_lit wr 3).own)
                have HcA := Lib.hid (fun j (hj : j < 12) => kc (bl_alloc (Below.refl wr.heap.size wr) (.cells #[] 3)) (hcv j hj))
                have Hcv := Lib.hid hcv
                clear hcv
                go_wp2_with (at_builtin; refine wpList_plain (by rfl) fun K' hK' => ?_; refine wp_app12 _ _ (by rfl) (by rfl) (B0 := wr.heap.size) (by rfl) (by rfl) Hown.out (by intro j hj; cases hj; exact Nat.le_refl _) HcA.out (by simp) ?_; intro g cap1 w7 hg1 hov hb7; have hbx := Lib.hid ((bl_alloc (Below.refl wr.heap.size wr) (.cells #[] 3)).trans hb7); have cv := kc hbx.out (Hcv.out ix hix); obtain ⟨u0, hu0⟩ := hov.cell hix; have hf0 := hov.frozen ix; have d0 := kc hbx.out b0; have d1 := kc hbx.out b1; have hgne : ¬ g = w1.heap.size := (by omega); have hgne2 : ¬ w1.heap.size = g := (by omega); have Hov := Lib.hid hov; have Hg1 := Lib.hid hg1; clear hb7 hov hg1; refine hK' _ _ ?_; clear hK' K')
                refine (implSlack_any _ _ _ _ _ _ _ c l qq _ hkB hkvB (Hcr.out.later (hbx.out.setCell Hg1.out _)) (OwnV.same (Hov.out.upd hix (1)) Hq.out).rdAt).mono ?_
                rintro e w8 ⟨rfl, hb8⟩
                have HB8 := Lib.hid (bl_trans (bl_trans HB.out (hbx.out.setCell Hg1.out _)) hb8)
                clear hb8
                rw [slk_yes Hok'.out, Hok'.out]
                go_wp2
                go_roundw
                case rel => exact ⟨i + 1, by omega, by go_num, HB8.out⟩
                case measure => simp [intOf]; omega
      · have e : i = k := by omega
        subst e
        go_wp2
        go_ret
        exact ⟨rfl, bl_trans HB6.out HB.out⟩
  · have hL0 : impL k c l bd kv v = [] := by
      cases hok : slkOk k c l bd kv v with
      | false => exact impL_inv hok
      | true => exact impL_neg hok (by
          by_cases h : slk k c l bd v < 0
          · exact h
          · exact absurd ⟨hok, by omega⟩ hcase)
    rw [hL0] at Hl6 HLe ⊢
    have HL0 := Lib.hid hL0
    cases hok : slkOk k c l bd kv v with
    | false =>
      clear hcase HLe
      go_wp2_with fail
      refine (specImp_any _ _ _ _ _ _ _ c l v _ hkB hkvB Hc6.out Hv6.out).mono ?_
      rw [hL0]
      rintro e w7 ⟨Ax, capx, rfl, hfx, hb⟩
      have HB7 := Lib.hid (bl_trans HB6.out hb)
      have Hl7 := Lib.hid (Hl6.out.later hb)
      have Hx7 := Lib.hid hfx.rdAt
      clear hb hfx HB6 Hl6 Hc6 Hv6 a0 a1
      go_wp2_with fail
      refine (cpInts_refl _ _ _ _ _ (gI []) _ (Nat.zero_le _) Hl7.out Hx7.out).mono ?_
      rintro e w8 ⟨rfl, hb⟩
      have HB8 := Lib.hid (bl_trans HB7.out hb)
      clear hb HB7 Hl7 Hx7
      go_wp2
      go_ret
      exact ⟨rfl, HB8.out⟩
    | true =>
      have hneg : slk k c l bd v < 0 := by
        by_cases h : slk k c l bd v < 0
        · exact h
        · exact absurd ⟨hok, by omega⟩ hcase
      rw [slk_yes hok]
      clear hcase hok HLe
      go_wp2_with fail
      refine (specImp_any _ _ _ _ _ _ _ c l v _ hkB hkvB Hc6.out Hv6.out).mono ?_
      rw [hL0]
      rintro e w7 ⟨Ax, capx, rfl, hfx, hb⟩
      have HB7 := Lib.hid (bl_trans HB6.out hb)
      have Hl7 := Lib.hid (Hl6.out.later hb)
      have Hx7 := Lib.hid hfx.rdAt
      clear hb hfx HB6 Hl6 Hc6 Hv6 a0 a1
      go_wp2_with fail
      refine (cpInts_refl _ _ _ _ _ (gI []) _ (Nat.zero_le _) Hl7.out Hx7.out).mono ?_
      rintro e w8 ⟨rfl, hb⟩
      have HB8 := Lib.hid (bl_trans HB7.out hb)
      clear hb HB7 Hl7 Hx7
      go_wp2
      go_ret
      exact ⟨rfl, HB8.out⟩
end Go.Proofs.Ytfgmkaajcbmlmaa
