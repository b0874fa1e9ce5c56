/- The walk of the law FnViolationCount (no claim of its own). Conditions: as each theorem states. -/
import Derived.Test.YtnglpbfoeiahlaaVioM
namespace Go.Proofs.Ytnglpbfoeiahlaa
open Go.ChangeShapes Go.WideShapes Go.ChangeAt Go.RowKit

set_option maxRecDepth 100000 in
set_option maxHeartbeats 800000 in
theorem drawVio_any (A : Option Addr) (n cap : Nat) (y : Nat → Int) (w : World) (hm : n ≤ maxLen) (hcap : n ≤ cap) (hr : RdY w w.heap.size A n y) :
    Calls Try.prog 21 #[.slice A n cap] w (DSa w) := by
  go_enter Try.func21, Try.ntmps21
  go_wp2_with fail
  refine (drawSat_any _ _ _ y _ hm hcap hr).mono ?_
  rintro e w1 ⟨Al, k, capl, xs, lo, el, Av, kv, capv, v, rfl, h1, h2, h3, h4, h5⟩
  have H3 := Lib.hid h3
  have H4 := Lib.hid h4
  have H5 := Lib.hid h5
  clear h3 h4 h5
  go_wp2
  go_ret2
  exact ⟨Al, k, capl, xs, lo, el, Av, kv, capv, v, rfl, h1, h2, H3.out, H4.out, H5.out⟩

set_option linter.unusedVariables false in
set_option maxRecDepth 100000 in
set_option maxHeartbeats 6400000 in
theorem lawFnViolationCount_ok (A0 A1 : Option Addr) (n0 cap0 n1 cap1 : Nat) (y0 : Nat → Int) (w : World) (h0 : n0 ≤ 1048576) (h1 : n1 ≤ 1048576) (hc0 : n0 ≤ cap0) (hr0 : RdY w w.heap.size A0 n0 y0) :
    Calls Try.prog 5 #[.slice A0 n0 cap0, .slice A1 n1 cap1] w fun e w' => e = .returned (.bool true) ∧ Below w.heap.size w w' := by
  have hm0 : n0 ≤ maxLen := by unfold maxLen; omega
  have hi0 : ¬ (1048576 : Int) < (n0 : Int) := by omega
  have hi1 : ¬ (1048576 : Int) < (n1 : Int) := by omega
  go_enter Try.func5, Try.ntmps5
  go_wp2_with fail
  refine (drawVio_any _ _ _ y0 _ hm0 hc0 hr0).mono ?_
  rintro e w1 ⟨Aa, ka, capa, xsa, loa, ela, Av, kv, capv, v, rfl, hka, hkv, hp, hrv, hb⟩
  obtain ⟨pa, hna, hpa⟩ := hp.pxp
  have HNa := Lib.hid (fun i hi => Nat.le_trans (hna i hi) (show 15 ≤ 1048576 by omega))
  have HB1 := Lib.hid hb
  have HR1 := Lib.hid (rdp_own hp.own hpa)
  have HV1 := Lib.hid hrv
  have hshape := hp.roomy
  clear hb hp hpa hrv hna
  have hkaB : ka ≤ 1048576 := by omega
  have hkvB : kv ≤ 1048576 := by omega
  go_wp2_with fail
  refine (implVio_any _ _ _ _ _ _ pa v _ hkaB HNa.out hkvB HR1.out HV1.out).mono ?_
  rintro e w2 ⟨rfl, hb⟩
  have HB2 := Lib.hid (bl_trans HB1.out hb)
  have HR2 := Lib.hid (HR1.out.later hb)
  have HV2 := Lib.hid (HV1.out.later hb)
  clear hb HB1 HR1 HV1
  go_wp2_with fail
  refine (specVio_any _ _ _ _ _ _ pa v _ hkaB HNa.out hkvB HR2.out HV2.out).mono ?_
  rintro e w3 ⟨rfl, hb⟩
  have HB3 := Lib.hid (bl_trans HB2.out hb)
  have HR3 := Lib.hid (HR2.out.later hb)
  have HV3 := Lib.hid (HV2.out.later hb)
  clear hb HB2 HR2 HV2
  cases hok : vioOk ka pa kv with
  | false =>
    clear hok hshape
    go_wp2
    go_ret
    exact ⟨rfl, HB3.out⟩
  | true =>
    obtain ⟨hpr, rfl⟩ : probB ka pa = true ∧ kv = 12 := by
      unfold vioOk at hok
      rw [Bool.and_eq_true] at hok
      exact ⟨hok.1, by simpa using hok.2⟩
    rw [(vio_yes (v := v) hpr).2]
    obtain ⟨k, hmod, hk⟩ : ∃ k : Nat, Int.tmod (n1 : Int) ((ka : Int) + 1) = (k : Int) ∧ k < ka + 1 := ⟨n1 % (ka + 1), by rw [Int.tmod_eq_emod_of_nonneg (by omega)]; simp, Nat.mod_lt _ (by omega)⟩
    have HPR := Lib.hid hpr
    have HKk := Lib.hid (vio_yes (v := v) (prob_pre hpr (show k ≤ ka by omega)))
    have HKm := Lib.hid (vio_yes (v := v) (prob_off hpr (show k + (ka - k) ≤ ka by omega)))
    have HCat := Lib.hid (show badN pa v ka = badN pa v k + badN (offP pa k) v (ka - k) by rw [← badN_cat, Nat.add_sub_cancel' (by omega)])
    have HSat := Lib.hid (show satB ka pa 12 v = decide (badN pa v ka = 0) by rw [satB_yes hpr, allE_bad])
    have hle := badN_le pa v ka
    have hkB : k ≤ 1048576 := by omega
    have hmB : ka - k ≤ 1048576 := by omega
    have HNk := Lib.hid (show ∀ i, i < k → (pa i).n ≤ 1048576 from fun i hi => HNa.out i (by omega))
    have HNm := Lib.hid (show ∀ i, i < ka - k → (offP pa k i).n ≤ 1048576 from fun i hi => HNa.out (k + i) (by omega))
    have hn1 : ((ka : Int) + 1 == 0) = false := by rw [beq_eq_false_iff_ne]; omega
    clear hok hpr
    obtain ⟨a, b, N, e1, e2, e3⟩ : ∃ a b N : Nat, badN pa v k = a ∧ badN (offP pa k) v (ka - k) = b ∧ badN pa v ka = N := ⟨_, _, _, rfl, rfl, rfl⟩
    rw [e1, e2, e3] at HCat
    rw [e1] at HKk
    rw [e2] at HKm
    rw [e3] at HSat hle ⊢
    have hab : a + b ≤ 1048576 := by have := HCat.out; omega
    clear e1 e2 e3
    have hkk : (k : Int) ≤ (ka : Int) := by omega
    have hk0 : (0 : Int) ≤ (k : Int) := by omega
    rcases hshape with ⟨rfl, rfl, rfl⟩ | ⟨g, rfl, hkc, hcm⟩
    · obtain rfl : k = 0 := by omega
      go_wp2_with fail
      refine (implVio_any _ _ _ _ _ _ pa v _ hkB HNk.out hkvB (HR3.out.pre (by omega)) HV3.out).mono ?_
      rintro e w4 ⟨rfl, hb⟩
      rw [HKk.out.1, HKk.out.2]
      have HB4 := Lib.hid (bl_trans HB3.out hb)
      have HR4 := Lib.hid (HR3.out.later hb)
      have HV4 := Lib.hid (HV3.out.later hb)
      clear hb HB3 HR3 HV3
      go_wp2_with fail
      refine (implVio_any _ _ _ _ _ _ (offP pa 0) v _ (by omega) HNm.out hkvB (fun h => absurd h (by omega)) HV4.out).mono ?_
      rintro e w5 ⟨rfl, hb⟩
      rw [HKm.out.1, HKm.out.2]
      have HB5 := Lib.hid (bl_trans HB4.out hb)
      have HR5 := Lib.hid (HR4.out.later hb)
      have HV5 := Lib.hid (HV4.out.later hb)
      clear hb HB4 HR4 HV4
      have hcat : (N : Int) = (a : Int) + (b : Int) := by have := HCat.out; omega
      go_wp2_with fail
      refine (implSat_any _ _ _ _ _ _ pa v _ hkaB HNa.out hkvB HR5.out HV5.out).mono ?_
      rintro e w6 ⟨rfl, hb⟩
      rw [HSat.out]
      have HB6 := Lib.hid (bl_trans HB5.out hb)
      clear hb
      rcases Nat.eq_zero_or_pos N with hN | hN
      · rw [decide_eq_true hN]
        go_wp2
        go_ret
        exact ⟨ret_bool (by rw [beq_iff_eq]; omega), HB6.out⟩
      · rw [decide_eq_false (by omega)]
        go_wp2
        go_ret
        exact ⟨ret_bool (by have e : ((a : Int) + (b : Int) == 0) = false := by (rw [beq_eq_false_iff_ne]; omega)
                            rw [e]; rfl), HB6.out⟩
    · unfold maxLen at hcm
      have hkc2 : (k : Int) ≤ (capa : Int) := by omega
      have hkc3 : (ka : Int) ≤ (capa : Int) := by omega
      by_cases hce : capa = k
      · have hce2 : ka = k := by omega
        subst hce2
        subst hce
        rw [Nat.sub_self] at HKm HNm
        have hz : ∀ W : World, (Go.sizeOf 71).run Try.prog W = .ok 2 W := fun _ => by kernel_rfl
        go_wp2_with fail
        refine (implVio_any _ _ _ _ _ _ pa v _ hkB HNk.out hkvB (HR3.out.pre (by omega)) HV3.out).mono ?_
        rintro e w4 ⟨rfl, hb⟩
        rw [HKk.out.1, HKk.out.2]
        have HB4 := Lib.hid (bl_trans HB3.out hb)
        have HR4 := Lib.hid (HR3.out.later hb)
        have HV4 := Lib.hid (HV3.out.later hb)
        clear hb HB3 HR3 HV3
        go_wp2_with fail
        refine (implVio_any _ _ _ _ _ _ (offP pa capa) v _ (by omega) HNm.out hkvB (fun h => absurd h (by omega)) HV4.out).mono ?_
        rintro e w5 ⟨rfl, hb⟩
        rw [HKm.out.1, HKm.out.2]
        have HB5 := Lib.hid (bl_trans HB4.out hb)
        have HR5 := Lib.hid (HR4.out.later hb)
        have HV5 := Lib.hid (HV4.out.later hb)
        clear hb HB4 HR4 HV4
        have hcat : (N : Int) = (a : Int) + (b : Int) := by have := HCat.out; omega
        go_wp2_with fail
        refine (implSat_any _ _ _ _ _ _ pa v _ hkaB HNa.out hkvB HR5.out HV5.out).mono ?_
        rintro e w6 ⟨rfl, hb⟩
        rw [HSat.out]
        have HB6 := Lib.hid (bl_trans HB5.out hb)
        clear hb
        rcases Nat.eq_zero_or_pos N with hN | hN
        · rw [decide_eq_true hN]
          go_wp2
          go_ret
          exact ⟨ret_bool (by rw [beq_iff_eq]; omega), HB6.out⟩
        · rw [decide_eq_false (by omega)]
          go_wp2
          go_ret
          exact ⟨ret_bool (by have e : ((a : Int) + (b : Int) == 0) = false := by (rw [beq_eq_false_iff_ne]; omega)
                              rw [e]; rfl), HB6.out⟩
      · have hz : ∀ W : World, (Go.sizeOf 71).run Try.prog W = .ok 2 W := fun _ => by kernel_rfl
        go_wp2_with fail
        refine (implVio_any _ _ _ _ _ _ pa v _ hkB HNk.out hkvB (HR3.out.pre (by omega)) HV3.out).mono ?_
        rintro e w4 ⟨rfl, hb⟩
        rw [HKk.out.1, HKk.out.2]
        have HB4 := Lib.hid (bl_trans HB3.out hb)
        have HR4 := Lib.hid (HR3.out.later hb)
        have HV4 := Lib.hid (HV3.out.later hb)
        clear hb HB3 HR3 HV3
        go_wp2_with fail
        refine (implVio_any _ _ _ _ _ _ (offP pa k) v _ hmB HNm.out hkvB (HR4.out.off (show k + (ka - k) ≤ ka by omega) (by omega)) HV4.out).mono ?_
        rintro e w5 ⟨rfl, hb⟩
        rw [HKm.out.1, HKm.out.2]
        have HB5 := Lib.hid (bl_trans HB4.out hb)
        have HR5 := Lib.hid (HR4.out.later hb)
        have HV5 := Lib.hid (HV4.out.later hb)
        clear hb HB4 HR4 HV4
        have hcat : (N : Int) = (a : Int) + (b : Int) := by have := HCat.out; omega
        go_wp2_with fail
        refine (implSat_any _ _ _ _ _ _ pa v _ hkaB HNa.out hkvB HR5.out HV5.out).mono ?_
        rintro e w6 ⟨rfl, hb⟩
        rw [HSat.out]
        have HB6 := Lib.hid (bl_trans HB5.out hb)
        clear hb
        rcases Nat.eq_zero_or_pos N with hN | hN
        · rw [decide_eq_true hN]
          go_wp2
          go_ret
          exact ⟨ret_bool (by rw [beq_iff_eq]; omega), HB6.out⟩
        · rw [decide_eq_false (by omega)]
          go_wp2
          go_ret
          exact ⟨ret_bool (by have e : ((a : Int) + (b : Int) == 0) = false := by (rw [beq_eq_false_iff_ne]; omega)
                              rw [e]; rfl), HB6.out⟩

set_option linter.unusedVariables false in
set_option maxRecDepth 100000 in
set_option maxHeartbeats 1600000 in
theorem lawFnViolationCount_walk (A0 : Option Addr) (n0 cap0 : Nat) (y0 : Nat → Int) (A1 : Option Addr) (n1 cap1 : Nat) (y1 : Nat → Int) (w : World) (hm0 : n0 ≤ maxLen) (hc0 : n0 ≤ cap0) (hr0 : RdY w w.heap.size A0 n0 y0) (hm1 : n1 ≤ maxLen) (hc1 : n1 ≤ cap1) (hr1 : RdY w w.heap.size A1 n1 y1) :
    Calls Try.prog 5 #[.slice A0 n0 cap0, .slice A1 n1 cap1] w fun e w' => e = .returned (.bool true) ∧ Below w.heap.size w w' := by
  by_cases h0 : n0 ≤ 1048576
  · by_cases h1 : n1 ≤ 1048576
    · exact lawFnViolationCount_ok A0 A1 n0 cap0 n1 cap1 y0 w h0 h1 hc0 hr0
    · unfold maxLen at hm1
      have hi0 : ¬ (1048576 : Int) < (n0 : Int) := by omega
      have hi1 : (1048576 : Int) < (n1 : Int) := by omega
      go_enter Try.func5, Try.ntmps5
      go_wp2
      go_ret
      exact ⟨rfl, Below.refl _ _⟩
  · unfold maxLen at hm0
    have hi0 : (1048576 : Int) < (n0 : Int) := by omega
    go_enter Try.func5, Try.ntmps5
    go_wp2
    go_ret
    exact ⟨rfl, Below.refl _ _⟩
end Go.Proofs.Ytnglpbfoeiahlaa
