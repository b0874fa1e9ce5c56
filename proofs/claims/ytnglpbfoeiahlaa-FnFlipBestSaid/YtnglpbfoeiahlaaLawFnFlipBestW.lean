/- The walk of the law FnFlipBest (no claim of its own). Conditions: as each theorem states. -/
import Derived.Test.YtnglpbfoeiahlaaFlpA
import Derived.Test.YtnglpbfoeiahlaaCpbA
import Derived.Test.YtnglpbfoeiahlaaDrwT
import Derived.Deep.QuietTactic
namespace Go.Proofs.Ytnglpbfoeiahlaa
open Go.ChangeShapes Go.WideShapes Go.ChangeAt Go.RowKit

set_option maxRecDepth 100000 in
set_option maxHeartbeats 800000 in
theorem drawFlip_any (A : Option Addr) (n cap : Nat) (y : Nat → Int) (w : World) (hm : n ≤ maxLen) (hcap : n ≤ cap) (hr : RdY w w.heap.size A n y) :
    Calls Try.prog 23 #[.slice A n cap] w (DSa w) := by
  go_enter Try.func23, Try.ntmps23
  go_wp2_with fail
  refine (drawSat_any _ _ _ y _ hm hcap hr).mono ?_
  rintro e w1 ⟨Al, k, capl, xs, lo, el, Av, kv, capv, v, rfl, h1, h2, h3, h4, h5⟩
  have H3 := Lib.hid h3
  have H4 := Lib.hid h4
  have H5 := Lib.hid h5
  clear h3 h4 h5
  go_wp2
  go_ret2
  exact ⟨Al, k, capl, xs, lo, el, Av, kv, capv, v, rfl, h1, h2, H3.out, H4.out, H5.out⟩

/-- How many of the first k values differ. -/
def chgF (j k : Nat) : Nat := if j < k then 1 else 0
theorem chg_at (j : Nat) : chgF j j = 0 ∧ chgF j (j + 1) = 1 := ⟨if_neg (by omega), if_pos (by omega)⟩
theorem chg_ne {j k : Nat} (h : k ≠ j) : chgF j (k + 1) = chgF j k := by
  unfold chgF
  by_cases e : j < k
  · rw [if_pos e, if_pos (by omega)]
  · rw [if_neg e, if_neg (by omega)]
theorem chg_le (j k : Nat) : chgF j k ≤ 1 := by unfold chgF; split <;> omega
theorem flp_at (v : Nat → Bool) (i : Nat) : flp v i i = !v i := if_pos rfl
theorem flp_ne (v : Nat → Bool) {i j : Nat} (h : j ≠ i) : flp v i j = v j := if_neg h

set_option linter.unusedVariables false in
set_option maxRecDepth 100000 in
set_option maxHeartbeats 6400000 in
theorem lawFnFlipBest_ok (A0 : Option Addr) (n0 cap0 : Nat) (y0 : Nat → Int) (w : World) (h0 : n0 ≤ 1048576) (hc0 : n0 ≤ cap0) (hr0 : RdY w w.heap.size A0 n0 y0) :
    Calls Try.prog 6 #[.slice A0 n0 cap0] w fun e w' => e = .returned (.bool true) ∧ Below w.heap.size w w' := by
  have hm0 : n0 ≤ maxLen := by unfold maxLen; omega
  have hi0 : ¬ (1048576 : Int) < (n0 : Int) := by omega
  go_enter Try.func6, Try.ntmps6
  go_wp2_with fail
  refine (drawFlip_any _ _ _ y0 _ hm0 hc0 hr0).mono ?_
  rintro e w1 ⟨Aa, ka, capa, xsa, loa, ela, Av, kv, capv, v, rfl, hka, hkv, hp, hrv, hb⟩
  obtain ⟨pa, hna, hpa⟩ := hp.pxp
  have HNa := Lib.hid (fun i hi => Nat.le_trans (hna i hi) (show 15 ≤ 1048576 by omega))
  have HB1 := Lib.hid hb
  have HR1 := Lib.hid (rdp_own hp.own hpa)
  have HV1 := Lib.hid hrv
  clear hb hp hpa hrv hna
  have hkaB : ka ≤ 1048576 := by omega
  have hkvB : kv ≤ 1048576 := by omega
  go_wp2_with fail
  refine (implFl_any _ _ _ _ _ _ pa v _ hkaB HNa.out hkvB HR1.out HV1.out).mono ?_
  rintro e w2 ⟨Ag, capg, rfl, hfg, hb⟩
  have HB2 := Lib.hid (bl_trans HB1.out hb)
  have HR2 := Lib.hid (HR1.out.later hb)
  have HV2 := Lib.hid (HV1.out.later hb)
  have HG2 := Lib.hid hfg
  clear hb hfg HB1 HR1 HV1
  go_wp2_with fail
  refine (specFl_any _ _ _ _ _ _ pa v _ hkaB HNa.out hkvB HR2.out HV2.out).mono ?_
  rintro e w3 ⟨Aw, capw, rfl, hfw, hb⟩
  have HB3 := Lib.hid (bl_trans HB2.out hb)
  have HR3 := Lib.hid (HR2.out.later hb)
  have HV3 := Lib.hid (HV2.out.later hb)
  have HG3 := Lib.hid (HG2.out.below hb)
  have HW3 := Lib.hid hfw
  have hN : flN ka pa kv ≤ 1048576 := Nat.le_trans (flN_le _ _ _) (by omega)
  clear hb hfw HB2 HR2 HV2 HG2
  go_wp2_with fail
  refine (cpBools_same _ _ _ _ _ (flV ka pa v) _ hN HG3.out.rdAt HW3.out.rdAt).mono ?_
  rintro e w4 ⟨rfl, hb⟩
  have HB4 := Lib.hid (bl_trans HB3.out hb)
  have HR4 := Lib.hid (HR3.out.later hb)
  have HV4 := Lib.hid (HV3.out.later hb)
  have HG4 := Lib.hid (HG3.out.below hb)
  have HW4 := Lib.hid (HW3.out.below hb)
  clear hb HB3 HR3 HV3 HG3 HW3
  cases hok : vioOk ka pa kv with
  | false =>
    clear hok
    go_wp2_with fail
    refine (cpBools_same _ _ _ _ _ (flV ka pa v) _ hN HG4.out.rdAt HW4.out.rdAt).mono ?_
    rintro e w5 ⟨rfl, hb⟩
    have HB5 := Lib.hid (bl_trans HB4.out hb)
    clear hb
    go_wp2
    go_ret
    exact ⟨rfl, HB5.out⟩
  | true =>
    obtain ⟨hpr, rfl⟩ : probB ka pa = true ∧ kv = 12 := by
      unfold vioOk at hok
      rw [Bool.and_eq_true] at hok
      exact ⟨hok.1, by simpa using hok.2⟩
    have hfl := fl_yes (v := v) hok
    rw [hfl.1] at HG4
    rw [hfl.1, hfl.2]
    have HPR := Lib.hid hpr
    obtain ⟨j, hj⟩ : ∃ j, bstF ka pa v 11 = j := ⟨_, rfl⟩
    have hj11 : j ≤ 11 := by have := bst_le ka pa v 11; omega
    have HMin := Lib.hid (show ∀ i, i ≤ 11 → cntF ka pa v j ≤ cntF ka pa v i from fun i hi => by rw [← hj]; exact bst_min ka pa v 11 i hi)
    have HGr := Lib.hid (show FrB w4 w1.heap.size 4 Ag 12 (flp v j) from by rw [← hj]; exact HG4.out)
    rw [hj]
    clear hfl hpr hj HG4 HW4 hok hN
    obtain ⟨g, eg, _, ho⟩ := HGr.out.resolve_left (by omega)
    subst eg
    have HO := Lib.hid ho
    clear ho HGr
    have hcj := cntF_le ka pa v j
    obtain ⟨N, hN⟩ : ∃ N, cntF ka pa v j = N := ⟨_, rfl⟩
    rw [hN] at HMin hcj ⊢
    go_wp2
    go_loopw [11, 12] (fun c i wr => ∃ k : Nat, k ≤ 12 ∧ i = .int .i64 k ∧ c = .int .i64 (chgF j k : Int) ∧ Below w4.heap.size w4 wr) (fun _ i _ => 12 - (intOf i).toNat)
    case atStart => exact ⟨0, Nat.zero_le _, rfl, rfl, Below.refl _ _⟩
    case round =>
      obtain ⟨k, hk, rfl, rfl, hb⟩ := hrel
      have HBr := Lib.hid hb
      clear hb
      by_cases hlt : k < 12
      · have hx1 := kc HBr.out (HO.out.at_k hlt)
        obtain ⟨b0, off, rfl, hbl, hc⟩ := (HV4.out.below HBr.out) (by omega)
        have hx2 := hc k hlt
        have Hc := Lib.hid hc
        clear hc
        have hlt' : (k : Int) < 12 := by omega
        have hk0 : (0 : Int) ≤ (k : Int) := by omega
        have hch := chg_le j k
        have hmin := HMin.out k (by omega)
        have HKv := Lib.hid (vio_yes (v := flp v k) HPR.out)
        obtain ⟨c2, hc2⟩ : ∃ c2, cntF ka pa v k = c2 := ⟨_, rfl⟩
        have hmin2 : ¬ (c2 : Int) < (N : Int) := by omega
        have hbad : badN pa (flp v k) ka = c2 := hc2
        rw [hbad] at HKv
        have hcle := cntF_le ka pa v k
        obtain ⟨C, C', hC, hC'⟩ : ∃ C C', chgF j k = C ∧ chgF j (k + 1) = C' := ⟨_, _, rfl, rfl⟩
        have HC' := Lib.hid hC'
        rw [hC] at hch ⊢
        obtain ⟨i0, hi, hz0, hz1, hz2⟩ := info_parts Try.infoBool
        have HI := Lib.hid hi
        have HZ0 := Lib.hid hz0
        have HZ1 := Lib.hid hz1
        have HZ2 := Lib.hid hz2
        have Hlen := Lib.hid (show (valB v 12).length = 12 * 1 by rw [valB_len])
        have Hone := Lib.hid (valB_one v 12)
        have HcA := Lib.hid (show ∀ m, 0 < 12 → ∀ j u, (valB v 12)[j]? = some u → ((wr.drewN m).alloc (.cells #[] 4)).cell? (Addr.add ⟨b0, off, none⟩ j) = some u from fun m _ j u hj => by
          obtain ⟨hj1, rfl⟩ := valB_inv hj
          rw [Addr.add_lit]
          exact Lib.cell?_alloc_some _ (Hc.out j hj1))
        have HR0 := Lib.hid (show ∀ m, ((wr.drewN m).alloc (.cells #[] 4)).ownsRow wr.heap.size 4 1 (.slice (some ⟨wr.heap.size, 0, none⟩) 0 0) 0 [] from fun m => rowX_new (wr.drewN m) 4 1)
        have HBm := Lib.hid (show ∀ m, Below wr.heap.size wr ((wr.drewN m).alloc (.cells #[] 4)) from fun m => (bl_drewN (Below.refl wr.heap.size wr) m).alloc (Nat.le_refl _) _)
        clear hi hz0 hz1 hz2 hC' hc2 hbad
        by_cases hkj : k = j
        · have hxx : flp v j k = !v k := by rw [hkj]; exact flp_at v j
          have hCC : C' = C + 1 := by have := chg_at j; rw [← HC'.out, ← hC, hkj]; omega
          rw [hxx] at hx1
          have HCC := Lib.hid hCC
          clear hxx hCC hC hkj
          obtain ⟨bb, hbb⟩ : ∃ bb, v k = bb := ⟨_, rfl⟩
          rw [hbb] at hx1 hx2
          cases bb
          all_goals
            go_wp2_with fail
            go_quiet (fail)
            go_wp2_with (at_builtin; refine wpList_plain (by rfl) fun K' hK' => ?_; refine wpX_cp _ _ 23 4 (by rfl) (by rfl) i0 _ 1 1 Try.underlying23 HI.out HZ0.out HZ1.out HZ2.out rfl (by omega) (B0 := wr.heap.size) (by rfl) (by rfl) Hlen.out (HR0.out _) (by intro j hj; cases hj; exact Nat.le_refl _) (HcA.out _) Hone.out (by unfold maxLen; omega) (by omega) (by simp) ?_; intro A1 cap1 w2 hov hb7; have Hb7 := Lib.hid (Below.trans (HBm.out _) hb7); have Hov := Lib.hid hov; clear hov hb7 HcA HR0; obtain ⟨g2, rfl, hg, ho⟩ := Hov.out.bools (by omega); have hgw : w4.heap.size ≤ g2 := Nat.le_trans HBr.out.size hg; have HB5 := Lib.hid ((bl_trans HBr.out Hb7.out).setCell (p := ⟨g2, k, none⟩) hgw (.bool !(v k))); have HT := Lib.hid (turn_flp ho hlt); have hy1 := ho.at_k hlt; have hf1 := ho.frozen k; clear hg ho Hov Hb7 hx1 hx2 HBm; rw [hbb] at hy1 HT HB5; refine hK' _ _ ?_; clear hK' K')
            refine (implVio_any _ _ _ _ _ _ pa (flp v k) _ hkaB HNa.out hkvB (HR4.out.later HB5.out) HT.out.rdAt).mono ?_
            clear hy1 hf1
            rintro e w6 ⟨rfl, hb⟩
            rw [HKv.out.1, HKv.out.2]
            have HB6 := Lib.hid (bl_trans HB5.out hb)
            clear hb
            go_wp2
            go_roundw
            case rel => exact ⟨k + 1, by omega, by go_num, by rw [HC'.out, HCC.out]; go_num, HB6.out⟩
            case measure => simp [intOf]; omega
        · have hxx : flp v j k = v k := flp_ne v hkj
          have hCC : C' = C := by rw [← HC'.out, ← hC]; exact chg_ne hkj
          rw [hxx] at hx1
          have HCC := Lib.hid hCC
          clear hxx hCC hC hkj
          obtain ⟨bb, hbb⟩ : ∃ bb, v k = bb := ⟨_, rfl⟩
          rw [hbb] at hx1 hx2
          cases bb
          all_goals
            go_wp2_with fail
            go_quiet (fail)
            go_wp2_with (at_builtin; refine wpList_plain (by rfl) fun K' hK' => ?_; refine wpX_cp _ _ 23 4 (by rfl) (by rfl) i0 _ 1 1 Try.underlying23 HI.out HZ0.out HZ1.out HZ2.out rfl (by omega) (B0 := wr.heap.size) (by rfl) (by rfl) Hlen.out (HR0.out _) (by intro j hj; cases hj; exact Nat.le_refl _) (HcA.out _) Hone.out (by unfold maxLen; omega) (by omega) (by simp) ?_; intro A1 cap1 w2 hov hb7; have Hb7 := Lib.hid (Below.trans (HBm.out _) hb7); have Hov := Lib.hid hov; clear hov hb7 HcA HR0; obtain ⟨g2, rfl, hg, ho⟩ := Hov.out.bools (by omega); have hgw : w4.heap.size ≤ g2 := Nat.le_trans HBr.out.size hg; have HB5 := Lib.hid ((bl_trans HBr.out Hb7.out).setCell (p := ⟨g2, k, none⟩) hgw (.bool !(v k))); have HT := Lib.hid (turn_flp ho hlt); have hy1 := ho.at_k hlt; have hf1 := ho.frozen k; clear hg ho Hov Hb7 hx1 hx2 HBm; rw [hbb] at hy1 HT HB5; refine hK' _ _ ?_; clear hK' K')
            refine (implVio_any _ _ _ _ _ _ pa (flp v k) _ hkaB HNa.out hkvB (HR4.out.later HB5.out) HT.out.rdAt).mono ?_
            clear hy1 hf1
            rintro e w6 ⟨rfl, hb⟩
            rw [HKv.out.1, HKv.out.2]
            have HB6 := Lib.hid (bl_trans HB5.out hb)
            clear hb
            go_wp2
            go_roundw
            case rel => exact ⟨k + 1, by omega, by go_num, by rw [HC'.out, HCC.out], HB6.out⟩
            case measure => simp [intOf]; omega
      · have e : k = 12 := by omega
        subst e
        have hch : chgF j 12 = 1 := if_pos (by omega)
        rw [hch]
        have HKv := Lib.hid (vio_yes (v := flp v j) HPR.out)
        have hbad : badN pa (flp v j) ka = N := hN
        rw [hbad] at HKv
        clear hch hbad
        go_wp2_with fail
        refine (implVio_any _ _ _ _ _ _ pa (flp v j) _ hkaB HNa.out hkvB (HR4.out.later HBr.out) (HO.out.below HBr.out).rdAt).mono ?_
        rintro e w6 ⟨rfl, hb⟩
        rw [HKv.out.1, HKv.out.2]
        have HB6 := Lib.hid (bl_trans HB4.out (bl_trans HBr.out hb))
        clear hb
        go_wp2
        go_ret
        exact ⟨rfl, HB6.out⟩

set_option linter.unusedVariables false in
set_option maxRecDepth 100000 in
set_option maxHeartbeats 1600000 in
theorem lawFnFlipBest_walk (A0 : Option Addr) (n0 cap0 : Nat) (y0 : Nat → Int) (w : World) (hm0 : n0 ≤ maxLen) (hc0 : n0 ≤ cap0) (hr0 : RdY w w.heap.size A0 n0 y0) :
    Calls Try.prog 6 #[.slice A0 n0 cap0] w fun e w' => e = .returned (.bool true) ∧ Below w.heap.size w w' := by
  by_cases h0 : n0 ≤ 1048576
  · exact lawFnFlipBest_ok A0 n0 cap0 y0 w h0 hc0 hr0
  · unfold maxLen at hm0
    have hi0 : (1048576 : Int) < (n0 : Int) := by omega
    go_enter Try.func6, Try.ntmps6
    go_wp2
    go_ret
    exact ⟨rfl, Below.refl _ _⟩
end Go.Proofs.Ytnglpbfoeiahlaa
