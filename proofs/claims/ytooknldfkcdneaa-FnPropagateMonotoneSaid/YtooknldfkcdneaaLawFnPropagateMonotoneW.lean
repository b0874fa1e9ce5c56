/- The walk of the law FnPropagateMonotone (no claim of its own). Conditions: as each theorem states. -/
import Derived.Test.YtooknldfkcdneaaUniM
import Derived.Deep.QuietTactic
import Derived.BigQuiet
namespace Go.Proofs.Ytooknldfkcdneaa
open Go.ChangeShapes Go.WideShapes Go.ChangeAt Go.RowKit

set_option maxRecDepth 100000 in
set_option maxHeartbeats 6400000 in
theorem lawFnPropagateMonotone_ok (A0 : Option Addr) (n0 cap0 : Nat) (y0 : Nat → Int) (A1 : Option Addr) (n1 cap1 : Nat) (y1 : Nat → Int) (w : World) (h0 : n0 ≤ 1048576) (hc0 : n0 ≤ cap0) (hr0 : RdY w w.heap.size A0 n0 y0) (h1 : n1 ≤ 1048576) (hc1 : n1 ≤ cap1) (hr1 : RdY w w.heap.size A1 n1 y1) :
    Calls Try.prog 9 #[.slice A0 n0 cap0, .slice A1 n1 cap1] w fun e w' => e = .returned (.bool true) ∧ Below w.heap.size w w' := by
  have hm0 : n0 ≤ maxLen := by unfold maxLen; omega
  have hi0 : ¬ (1048576 : Int) < (n0 : Int) := by omega
  have hm1 : n1 ≤ maxLen := by unfold maxLen; omega
  have hi1 : ¬ (1048576 : Int) < (n1 : Int) := by omega
  go_enter Try.func9, Try.ntmps9
  go_wp2_with fail
  refine (drawPg_any _ _ _ y0 _ hm0 hc0 hr0).mono ?_
  rintro e w1 ⟨Aa, ka, capa, xsa, loa, ela, Av, kv, capv, v0, rfl, hka, hkv, hp, hrv, hb⟩
  obtain ⟨p, hna, hpa⟩ := hp.pxp
  obtain ⟨v, hrv', hv0⟩ := rdi_cut hrv
  have HNa := Lib.hid (fun i hi => Nat.le_trans (hna i hi) (show 15 ≤ 1048576 by omega))
  have HB1 := Lib.hid hb
  have PA1 := Lib.hid hp
  have QA1 := Lib.hid hpa
  have Hv1 := Lib.hid hrv'
  have HV0 := Lib.hid hv0
  clear hb hp hpa hrv hrv' hna hv0
  have hkaB : ka ≤ 1048576 := by omega
  have hkvB : kv ≤ 1048576 := by omega
  go_wp2_with fail
  refine (drawPg_any _ _ _ y1 _ hm1 hc1 (hr1.later HB1.out)).mono ?_
  rintro e w1b ⟨Ab, kb, capb, xsb, lob, elb, Avb, kvb, capvb, vb, rfl, hkb, hkvb, hpB, hrvb, hb⟩
  have HB2 := Lib.hid (bl_trans HB1.out hb)
  obtain ⟨pb, hnb, hpb⟩ := hpB.pxp
  have HNb := Lib.hid (fun i hi => Nat.le_trans (hnb i hi) (show 15 ≤ 1048576 by omega))
  have PA2 := Lib.hid (PA1.out.bel hb)
  have QA2 := Lib.hid (QA1.out.later hb)
  have Hv2 := Lib.hid (Hv1.out.later hb)
  have PB1 := Lib.hid (hpB)
  have QB1 := Lib.hid (hpb)
  clear hb PA1 QA1 Hv1 HB1
  clear hpB hpb hrvb hnb
  have hkbB : kb ≤ 1048576 := by omega
  go_wp2_with fail
  refine (implProp_any _ _ _ _ _ _ p v _ hkaB hkvB HNa.out (rdp_own PA2.out.own QA2.out) Hv2.out HV0.out).mono ?_
  rintro e w2 ⟨n, v2, r, Aq, capq, Tq, rfl, hfq, hb, a1, a0⟩
  have HB3 := Lib.hid (bl_trans HB2.out hb)
  have PA3 := Lib.hid (PA2.out.bel hb)
  have QA3 := Lib.hid (QA2.out.later hb)
  have Hv3 := Lib.hid (Hv2.out.later hb)
  have PB2 := Lib.hid (PB1.out.bel hb)
  have QB2 := Lib.hid (QB1.out.later hb)
  have FQ1 := Lib.hid (FrI.two hfq)
  clear hb PA2 QA2 Hv2 PB1 QB1 HB2
  clear hfq
  have HA1 := Lib.hid a1
  have HA0 := Lib.hid a0
  clear a1 a0
  obtain ⟨ok, hok⟩ : ∃ ok, (probB ka p && pvB kv v) = ok := ⟨_, rfl⟩
  have HOK := Lib.hid hok
  rw [hok] at HA1 HA0 ⊢
  clear hok
  go_wp2_with fail
  refine (specProp_any _ _ _ _ _ _ p v _ hkaB hkvB HNa.out (rdp_own PA3.out.own QA3.out) Hv3.out).mono ?_
  rintro e w3 ⟨nw, vw, rw', Aw, capw, Tw, rfl, hfw, hb, b1, b0⟩
  have HB4 := Lib.hid (bl_trans HB3.out hb)
  have PA4 := Lib.hid (PA3.out.bel hb)
  have QA4 := Lib.hid (QA3.out.later hb)
  have Hv4 := Lib.hid (Hv3.out.later hb)
  have PB3 := Lib.hid (PB2.out.bel hb)
  have QB3 := Lib.hid (QB2.out.later hb)
  have FQ2 := Lib.hid (FQ1.out.below hb)
  have FW01 := Lib.hid (FrI.two hfw)
  clear hb PA3 QA3 Hv3 PB2 QB2 FQ1 HB3
  rw [HOK.out] at b1 b0 ⊢
  obtain ⟨e1, e2, e3, hn12⟩ := pres_two HA1.out HA0.out b1 b0
  subst e1
  subst e2
  have FW1 := Lib.hid (FrI.two (fri_as hfw e3))
  clear FW01 hfw b1 b0 e3
  have h12 : nw ≤ 1048576 := by omega
  cases ok with
  | false =>
    go_wp2_with (go_at_call 27; first | (refine (cpInts_refl _ _ _ _ _ v2 _ h12 FQ4x.out.rdAt FW4x.out.rdAt).mono ?_; rintro e w5x ⟨rfl, hb⟩; have HB5x := Lib.hid (bl_trans HB4x.out hb); have FQ5x := Lib.hid (FQ4x.out.below hb); have FW5x := Lib.hid (FW4x.out.below hb); clear hb ) | (refine (cpInts_refl _ _ _ _ _ v2 _ h12 FQ2.out.rdAt FW1.out.rdAt).mono ?_; rintro e w4x ⟨rfl, hb⟩; have HB4x := Lib.hid (bl_trans HB4.out hb); have FQ4x := Lib.hid (FQ2.out.below hb); have FW4x := Lib.hid (FW1.out.below hb); clear hb ))
    go_ret
    exact ⟨rfl, HB5x.out⟩
  | true =>
    obtain ⟨e12, hrg2, hrun⟩ := HA1.out rfl
    subst e12
    obtain ⟨hpb, hpv⟩ : probB ka p = true ∧ pvB kv v = true := by simpa using HOK.out
    obtain ⟨e12, hrg⟩ := pvB_iff.1 hpv
    have HV1 := Lib.hid (HV0.out e12)
    clear HV0
    subst e12
    have HOk := Lib.hid (prob_ok hpb).2
    have HRn := Lib.hid (show rng v from hrg)
    have HRn2 := Lib.hid hrg2
    have HRun := Lib.hid hrun
    clear hrg hrg2 hrun hpb hpv HA1 HA0
    go_wp2_with fail
    go_wp2_with fail
    refine (cpInts_refl _ _ _ _ _ v2 _ h12 FQ2.out.rdAt FW1.out.rdAt).mono ?_
    rintro e w4 ⟨rfl, hb⟩
    have HB5 := Lib.hid (bl_trans HB4.out hb)
    have PA5 := Lib.hid (PA4.out.bel hb)
    have QA5 := Lib.hid (QA4.out.later hb)
    have Hv5 := Lib.hid (Hv4.out.later hb)
    have PB4 := Lib.hid (PB3.out.bel hb)
    have QB4 := Lib.hid (QB3.out.later hb)
    have FQ3 := Lib.hid (FQ2.out.below hb)
    have FW2 := Lib.hid (FW1.out.below hb)
    clear hb PA4 QA4 Hv4 PB3 QB3 FQ2 FW1 HB4
    go_wp2_with fail
    refine (implProblem_any _ _ _ pb _ hkbB HNb.out (rdp_own PB4.out.own QB4.out)).mono ?_
    rintro e w5 ⟨rfl, hb⟩
    have HB6 := Lib.hid (bl_trans HB5.out hb)
    have PA6 := Lib.hid (PA5.out.bel hb)
    have QA6 := Lib.hid (QA5.out.later hb)
    have Hv6 := Lib.hid (Hv5.out.later hb)
    have PB5 := Lib.hid (PB4.out.bel hb)
    have QB5 := Lib.hid (QB4.out.later hb)
    have FQ4 := Lib.hid (FQ3.out.below hb)
    have FW3 := Lib.hid (FW2.out.below hb)
    clear hb PA5 QA5 Hv5 PB4 QB4 FQ3 FW2 HB5
    cases hpb : probB kb pb with
    | false =>
      clear hpb
      go_wp2_with (go_at_call 27; refine (cpInts_refl _ _ _ _ _ v2 _ h12 FQ4.out.rdAt FW3.out.rdAt).mono ?_; rintro e w6 ⟨rfl, hb⟩; have HX6 := Lib.hid (bl_trans HB6.out hb); clear hb)
      go_ret
      exact ⟨rfl, HX6.out⟩
    | true =>
      have Hpb := Lib.hid hpb
      clear hpb
      obtain ⟨hpa0, hpv0⟩ : probB ka p = true ∧ pvB 12 v = true := by simpa using HOK.out
      have HPc := Lib.hid (show (probB (kb + ka) (catP kb pb p) && pvB 12 v) = true from by rw [prob_cat Hpb.out hpa0 (by omega), hpv0]; rfl)
      have HOc := Lib.hid (ok_cat (fun i hi => (prob_ok Hpb.out).2 i hi) (fun i hi => HOk.out i hi))
      clear hpa0 hpv0
      have HBa := Lib.hid (bl_alloc (Below.refl w5.heap.size w5) (.cells #[] 42))
      have HOw := Lib.hid (px_lit w5 0 0).own
      have HNa1 := Lib.hid PA6.out.nils
      have HNb1 := Lib.hid PB5.out.nils
      have hkab : kb + ka ≤ 1048576 := by omega
      have HNc := Lib.hid (show ∀ i, i < kb + ka → (catP kb pb p i).n ≤ 1048576 from fun i hi => by
        unfold catP
        split
        · exact HNb.out i (by omega)
        · exact HNa.out (i - kb) (by omega))
      go_wp2_with (at_builtin; refine wpList_want (by rfl) fun K' hK' => ?_; first | (refine wp_appC _ _ (by rfl) (by rfl) (by rfl) (by rfl) HOw.out (PB5.out.bel HBa.out).src HNb1.out.2 HNb1.out.1 (by simp) (by omega) ?_; intro v6 w6 hown6 hg6; have HX6 := Lib.hid ((bl_alloc (Below.refl w5.heap.size w5) (.cells #[] 42)).grown hg6 (bl_alloc (Below.refl w5.heap.size w5) (.cells #[] 42)).size (by intro j e; cases e; exact Nat.le_refl _)); have HO6 := Lib.hid hown6; clear hown6 hg6; clear HOw; refine hK' _ _ ?_; clear hK' K') | (refine wp_appC _ _ (by rfl) (by rfl) (by rfl) (by rfl) HO6.out (PA6.out.bel HX6.out).src HNa1.out.2 HNa1.out.1 HX6.out.size (by omega) ?_; intro v7 w7 hown7 hg7; have HX7 := Lib.hid (HX6.out.grown hg7 HX6.out.size (fun j e => (HO6.out.lt j e).1)); have HO7 := Lib.hid hown7; clear hown7 hg7 HO6; refine hK' _ _ ?_; clear hK' K'))
      have ho8 := HO7.out
      rw [Nat.zero_add, List.nil_append] at ho8
      obtain ⟨A7, cap7, e7⟩ := row_shape ho8
      subst e7
      have HR7 := Lib.hid (rdp_own ho8 ((QB5.out.later HX7.out).cat (QA6.out.later HX7.out) PB5.out.len))
      clear ho8 HO7
      have Hv7 := Lib.hid (Hv6.out.later HX7.out)
      have FQ7 := Lib.hid (FQ4.out.below HX7.out)
      refine (implProp_any _ _ _ _ _ _ (catP kb pb p) v _ hkab hkvB HNc.out HR7.out Hv7.out (fun _ => HV1.out)).mono ?_
      rintro e w8 ⟨n3, v3, r3, Ar, capr, Tr, rfl, hfr, hb, c1, c0'⟩
      have HX8 := Lib.hid (bl_trans (bl_trans HB6.out HX7.out) hb)
      have FR8 := Lib.hid (FrI.two hfr)
      have FQ8 := Lib.hid (FQ7.out.below hb)
      rw [HPc.out] at c1 ⊢
      obtain ⟨e12, hrg3, hrun3⟩ := c1 rfl
      subst e12
      clear hb hfr c1 c0' HR7 Hv7 FQ7
      obtain ⟨hx1, hx2⟩ := hrun3.ends (fun j hj => HOc.out j hj)
      by_cases hr3 : 0 ≤ r3
      · go_wp2
        go_ret
        exact ⟨rfl, HX8.out⟩
      · have hfix : ∀ j, j < kb + ka → fixC (catP kb pb p j) v3 := by
          rcases hx2 with ⟨_, h⟩ | ⟨j, _, h, _⟩
          · exact h
          · omega
        obtain ⟨hext, hrr⟩ := HRun.out.under (fun j hj => HOk.out j hj) hrg3 (fun j hj => by have := hfix (kb + j) (by omega); rwa [catP_hi] at this) hx1
        subst hrr
        have HExt := Lib.hid hext
        clear hext hfix hx1 hx2 hrun3 hrg3
        go_wp2
        go_loopw [18] (fun i wr => ∃ j : Nat, i = .int .i64 j ∧ j ≤ 12 ∧ Below w8.heap.size w8 wr) (fun i _ => 12 - (intOf i).toNat)
        case atStart => exact ⟨0, rfl, by omega, Below.refl _ _⟩
        case round =>
          obtain ⟨j, rfl, hj, hb⟩ := hrel
          have HBr := Lib.hid hb
          clear hb
          by_cases hlt : j < 12
          · obtain ⟨b, off, rfl, hbl, hc⟩ := (FQ8.out.below HBr.out).rdAt (by omega)
            have c0 := hc j hlt
            obtain ⟨b', off', rfl, hbl', hc'⟩ := (FR8.out.below HBr.out).rdAt (by omega)
            have d0 := hc' j hlt
            have hjI : (j : Int) < 12 := by omega
            have hj0 : (0 : Int) ≤ (j : Int) := by omega
            clear hc hc'
            by_cases hz : v2 j = 0
            · rw [hz] at c0
              obtain ⟨y, hy⟩ : ∃ y, v3 j = y := ⟨_, rfl⟩
              rw [hy] at d0
              clear hy hz
              go_wp2_with fail
              go_quiet (fail)
              go_wp2
              go_roundw
              case rel => exact ⟨j + 1, by go_num, by omega, bl_drewN HBr.out _⟩
              case measure => simp [intOf]; omega
            · rw [HExt.out j hlt hz] at d0
              obtain ⟨y, hy⟩ : ∃ y, v2 j = y := ⟨_, rfl⟩
              rw [hy] at c0 d0 hz
              clear hy
              go_wp2_with fail
              go_quiet (fail)
              go_wp2
              go_roundw
              case rel => exact ⟨j + 1, by go_num, by omega, bl_drewN HBr.out _⟩
              case measure => simp [intOf]; omega
          · have e : j = 12 := by omega
            subst e
            go_wp2
            go_ret
            exact ⟨rfl, bl_trans HX8.out HBr.out⟩

set_option linter.unusedVariables false in
set_option maxRecDepth 100000 in
set_option maxHeartbeats 1600000 in
theorem lawFnPropagateMonotone_walk (A0 : Option Addr) (n0 cap0 : Nat) (y0 : Nat → Int) (A1 : Option Addr) (n1 cap1 : Nat) (y1 : Nat → Int) (w : World) (hm0 : n0 ≤ maxLen) (hc0 : n0 ≤ cap0) (hr0 : RdY w w.heap.size A0 n0 y0) (hm1 : n1 ≤ maxLen) (hc1 : n1 ≤ cap1) (hr1 : RdY w w.heap.size A1 n1 y1) :
    Calls Try.prog 9 #[.slice A0 n0 cap0, .slice A1 n1 cap1] w fun e w' => e = .returned (.bool true) ∧ Below w.heap.size w w' := by
  by_cases h0 : n0 ≤ 1048576
  · by_cases h1 : n1 ≤ 1048576
    · exact lawFnPropagateMonotone_ok A0 n0 cap0 y0 A1 n1 cap1 y1 w h0 hc0 hr0 h1 hc1 hr1
    · unfold maxLen at hm1
      have hi0 : ¬ (1048576 : Int) < (n0 : Int) := by omega
      have hi1 : (1048576 : Int) < (n1 : Int) := by omega
      go_enter Try.func9, Try.ntmps9
      go_wp2
      go_ret
      exact ⟨rfl, Below.refl _ _⟩
  · unfold maxLen at hm0
    have hi0 : (1048576 : Int) < (n0 : Int) := by omega
    go_enter Try.func9, Try.ntmps9
    go_wp2
    go_ret
    exact ⟨rfl, Below.refl _ _⟩
end Go.Proofs.Ytooknldfkcdneaa
