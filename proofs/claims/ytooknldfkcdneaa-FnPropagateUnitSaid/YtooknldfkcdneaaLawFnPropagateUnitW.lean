/- The walk of the law FnPropagateUnit (no claim of its own). Conditions: as each theorem states. -/
import Derived.Test.YtooknldfkcdneaaUniM
import Derived.Deep.QuietTactic
import Derived.BigQuiet
namespace Go.Proofs.Ytooknldfkcdneaa
open Go.ChangeShapes Go.WideShapes Go.ChangeAt Go.RowKit

set_option linter.unusedSimpArgs false in
set_option linter.unusedVariables false in
set_option maxRecDepth 100000 in
set_option maxHeartbeats 6400000 in
theorem lawFnPropagateUnit_ok (A0 : Option Addr) (n0 cap0 : Nat) (y0 : Nat → Int) (A1 : Option Addr) (n1 cap1 : Nat) (y1 : Nat → Int) (w : World) (h0 : n0 ≤ 1048576) (hc0 : n0 ≤ cap0) (hr0 : RdY w w.heap.size A0 n0 y0) (h1 : n1 ≤ 1048576) (hc1 : n1 ≤ cap1) (hr1 : RdY w w.heap.size A1 n1 y1) :
    Calls Try.prog 7 #[.slice A0 n0 cap0, .slice A1 n1 cap1] w fun e w' => e = .returned (.bool true) ∧ Below w.heap.size w w' := by
  have hm0 : n0 ≤ maxLen := by unfold maxLen; omega
  have hi0 : ¬ (1048576 : Int) < (n0 : Int) := by omega
  have hm1 : n1 ≤ maxLen := by unfold maxLen; omega
  have hi1 : ¬ (1048576 : Int) < (n1 : Int) := by omega
  go_enter Try.func7, Try.ntmps7
  go_wp2_with fail
  refine (drawPg_any _ _ _ y0 _ hm0 hc0 hr0).mono ?_
  rintro e w1 ⟨Aa, ka, capa, xsa, loa, ela, Av, kv, capv, v0, rfl, hka, hkv, hp, hrv, hb⟩
  obtain ⟨p, hna, hpa⟩ := hp.pxp
  obtain ⟨v, hrv', hv0⟩ := rdi_cut hrv
  have HNa := Lib.hid (fun i hi => Nat.le_trans (hna i hi) (show 15 ≤ 1048576 by omega))
  have HB1 := Lib.hid hb
  have PA1 := Lib.hid hp
  have QA1 := Lib.hid hpa
  have Hv1 := Lib.hid hrv'
  have HV0 := Lib.hid hv0
  clear hb hp hpa hrv hrv' hna hv0
  have hkaB : ka ≤ 1048576 := by omega
  have hkvB : kv ≤ 1048576 := by omega
  go_wp2_with fail
  refine (implProp_any _ _ _ _ _ _ p v _ hkaB hkvB HNa.out (rdp_own PA1.out.own QA1.out) Hv1.out HV0.out).mono ?_
  rintro e w2 ⟨n, v2, r, Aq, capq, Tq, rfl, hfq, hb, a1, a0⟩
  have HB2 := Lib.hid (bl_trans HB1.out hb)
  have PA2 := Lib.hid (PA1.out.bel hb)
  have QA2 := Lib.hid (QA1.out.later hb)
  have Hv2 := Lib.hid (Hv1.out.later hb)
  have FQ1 := Lib.hid (FrI.two hfq)
  clear hb PA1 QA1 Hv1 HB1
  clear hfq
  have HA1 := Lib.hid a1
  have HA0 := Lib.hid a0
  clear a1 a0
  obtain ⟨ok, hok⟩ : ∃ ok, (probB ka p && pvB kv v) = ok := ⟨_, rfl⟩
  have HOK := Lib.hid hok
  rw [hok] at HA1 HA0 ⊢
  clear hok
  go_wp2_with fail
  refine (specProp_any _ _ _ _ _ _ p v _ hkaB hkvB HNa.out (rdp_own PA2.out.own QA2.out) Hv2.out).mono ?_
  rintro e w3 ⟨nw, vw, rw', Aw, capw, Tw, rfl, hfw, hb, b1, b0⟩
  have HB3 := Lib.hid (bl_trans HB2.out hb)
  have PA3 := Lib.hid (PA2.out.bel hb)
  have QA3 := Lib.hid (QA2.out.later hb)
  have Hv3 := Lib.hid (Hv2.out.later hb)
  have FQ2 := Lib.hid (FQ1.out.below hb)
  have FW01 := Lib.hid (FrI.two hfw)
  clear hb PA2 QA2 Hv2 FQ1 HB2
  rw [HOK.out] at b1 b0 ⊢
  obtain ⟨e1, e2, e3, hn12⟩ := pres_two HA1.out HA0.out b1 b0
  subst e1
  subst e2
  have FW1 := Lib.hid (FrI.two (fri_as hfw e3))
  clear FW01 hfw b1 b0 e3
  have h12 : nw ≤ 1048576 := by omega
  cases ok with
  | false =>
    go_wp2_with (go_at_call 27; first | (refine (cpInts_refl _ _ _ _ _ v2 _ h12 FQ4x.out.rdAt FW4x.out.rdAt).mono ?_; rintro e w5x ⟨rfl, hb⟩; have HB5x := Lib.hid (bl_trans HB4x.out hb); have FQ5x := Lib.hid (FQ4x.out.below hb); have FW5x := Lib.hid (FW4x.out.below hb); clear hb ) | (refine (cpInts_refl _ _ _ _ _ v2 _ h12 FQ2.out.rdAt FW1.out.rdAt).mono ?_; rintro e w4x ⟨rfl, hb⟩; have HB4x := Lib.hid (bl_trans HB3.out hb); have FQ4x := Lib.hid (FQ2.out.below hb); have FW4x := Lib.hid (FW1.out.below hb); clear hb ))
    go_ret
    exact ⟨rfl, HB5x.out⟩
  | true =>
    obtain ⟨e12, hrg2, hrun⟩ := HA1.out rfl
    subst e12
    obtain ⟨hpb, hpv⟩ : probB ka p = true ∧ pvB kv v = true := by simpa using HOK.out
    obtain ⟨e12, hrg⟩ := pvB_iff.1 hpv
    have HV1 := Lib.hid (HV0.out e12)
    clear HV0
    subst e12
    have HOk := Lib.hid (prob_ok hpb).2
    have HRn := Lib.hid (show rng v from hrg)
    have HRn2 := Lib.hid hrg2
    have HRun := Lib.hid hrun
    clear hrg hrg2 hrun hpb hpv HA1 HA0
    go_wp2_with fail
    go_wp2_with fail
    refine (cpInts_refl _ _ _ _ _ v2 _ h12 FQ2.out.rdAt FW1.out.rdAt).mono ?_
    rintro e w4 ⟨rfl, hb⟩
    have HB4 := Lib.hid (bl_trans HB3.out hb)
    have PA4 := Lib.hid (PA3.out.bel hb)
    have QA4 := Lib.hid (QA3.out.later hb)
    have Hv4 := Lib.hid (Hv3.out.later hb)
    have FQ3 := Lib.hid (FQ2.out.below hb)
    clear hb PA3 QA3 Hv3 FQ2 FW1 HB3
    obtain ⟨k, hk, hk12⟩ : ∃ k : Nat, (n1 : Int).tmod 12 = (k : Int) ∧ k < 12 := by
      obtain ⟨a, b⟩ := tmod_bd (n1 : Int) 12 (by omega) (by omega)
      exact ⟨((n1 : Int).tmod 12).toNat, by omega, by omega⟩
    obtain ⟨t, ht, ht2⟩ : ∃ t : Nat, (n1 : Int).tmod 2 = (t : Int) ∧ t < 2 := by
      obtain ⟨a, b⟩ := tmod_bd (n1 : Int) 2 (by omega) (by omega)
      exact ⟨((n1 : Int).tmod 2).toNat, by omega, by omega⟩
    obtain ⟨hpa0, hpv0⟩ : probB ka p = true ∧ pvB 12 v = true := by simpa using HOK.out
    have Hpa0 := Lib.hid hpa0
    have Hpv0 := Lib.hid hpv0
    clear hpa0 hpv0
    have HNa1 := Lib.hid PA4.out.nils
    by_cases ht1 : t = 1
    · subst ht1
      have hz : litB (-(1 + (k : Int))) = true := litB_iff.2 ⟨by omega, by omega, by omega⟩
      have HPc := Lib.hid (show (probB (ka + 1) (catP ka p (fun _ => unitCon (-(1 + (k : Int))))) && pvB 12 v) = true from by rw [prob_cat Hpa0.out (prob_unit hz) (by omega), Hpv0.out]; rfl)
      have HOc := Lib.hid (ok_cat (p := p) (q := fun _ => unitCon (-(1 + (k : Int)))) (m := 1) (fun i hi => HOk.out i hi) (fun i hi => unit_ok hz))
      have HNc := Lib.hid (show ∀ i, i < ka + 1 → (catP ka p (fun _ => unitCon (-(1 + (k : Int)))) i).n ≤ 1048576 from fun i hi => by
        unfold catP
        split
        · exact HNa.out i (by omega)
        · show 1 ≤ 1048576; omega)
      have HZ := Lib.hid hz
      clear hz
      go_wp2_with fail
      have u0 : ((w4.alloc (.cells #[.int .i64 1, .int .i64 (-(1 + (k : Int)))] 58)).alloc (.cells #[.slice (some ⟨w4.heap.size, 0, none⟩) 1 1, .int .i64 1] 42)).cell? ⟨w4.heap.size + 1, 0, none⟩ = some (.slice (some ⟨w4.heap.size, 0, none⟩) 1 1) := by go_simp
      have u1 : ((w4.alloc (.cells #[.int .i64 1, .int .i64 (-(1 + (k : Int)))] 58)).alloc (.cells #[.slice (some ⟨w4.heap.size, 0, none⟩) 1 1, .int .i64 1] 42)).cell? ⟨w4.heap.size + 1, 1, none⟩ = some (.int .i64 1) := by go_simp
      have v0 : ((w4.alloc (.cells #[.int .i64 1, .int .i64 (-(1 + (k : Int)))] 58)).alloc (.cells #[.slice (some ⟨w4.heap.size, 0, none⟩) 1 1, .int .i64 1] 42)).cell? ⟨w4.heap.size, 0, none⟩ = some (.int .i64 1) := by go_simp
      have v1 : ((w4.alloc (.cells #[.int .i64 1, .int .i64 (-(1 + (k : Int)))] 58)).alloc (.cells #[.slice (some ⟨w4.heap.size, 0, none⟩) 1 1, .int .i64 1] 42)).cell? ⟨w4.heap.size, 1, none⟩ = some (.int .i64 (-(1 + (k : Int)))) := by go_simp
      have HB5 := Lib.hid (bl_alloc (bl_alloc (Below.refl w4.heap.size w4) (.cells #[.int .i64 1, .int .i64 (-(1 + (k : Int)))] 58)) (.cells #[.slice (some ⟨w4.heap.size, 0, none⟩) 1 1, .int .i64 1] 42))
      generalize ((w4.alloc (.cells #[.int .i64 1, .int .i64 (-(1 + (k : Int)))] 58)).alloc (.cells #[.slice (some ⟨w4.heap.size, 0, none⟩) 1 1, .int .i64 1] 42)) = W5 at *
      have hH : w4.heap.size < W5.heap.size := World.block_lt_of_cell? W5 _ v0
      have HUn := Lib.hid (show Rd W5 W5.heap.size (some ⟨w4.heap.size, 0, none⟩) 1 (fun _ => 1) (fun _ => (-(1 + (k : Int)))) from fun _ => ⟨w4.heap.size, 0, rfl, hH, fun i hi => by
        obtain rfl : i = 0 := by omega
        exact ⟨v0, v1⟩⟩)
      clear v0 v1
      have HPA := Lib.hid (PA4.out.bel HB5.out)
      have HQA := Lib.hid (QA4.out.later HB5.out)
      have HHv := Lib.hid (Hv4.out.later HB5.out)
      have HBW := Lib.hid (bl_trans HB4.out HB5.out)
      obtain ⟨H, hHe⟩ : ∃ H, w4.heap.size = H := ⟨_, rfl⟩
      rw [hHe] at u0 u1 hH HUn ⊢
      clear PA4 QA4 Hv4 FQ3 HB5 hHe
      refine wp_region_noPanic ?_
      refine wp_region_held_drew (S := fun w' => w'.cell? ⟨H + 1, 0, none⟩ = some (.slice (some ⟨H, 0, none⟩) 1 1) ∧ w'.cell? ⟨H + 1, 1, none⟩ = some (.int .i64 1)) (by kernel_rfl) ⟨by simpa using u0, by simpa using u1⟩ (fun hHeld => ?_)
      refine wpAnyH_take (i := 1) (v := .slice Aa ka capa) rfl (by kernel_rfl) (by kernel_rfl) (by kernel_rfl) (fun _ _ _ h => h) (Or.inl ⟨by rfl, ?_⟩) (by assumption) ?_
      · intro w hSw; simp only [List.getElem_toArray, List.getElem_cons_zero, List.getElem_cons_succ]; go_simp
      try simp only [Act.put, List.getElem_toArray, List.getElem_cons_zero, List.getElem_cons_succ, List.setIfInBounds_toArray, List.set_cons_zero, List.set_cons_succ]
      refine wpAnyH_take (i := 3) (v := .agg #[.slice (some ⟨H, 0, none⟩) 1 1, .int .i64 1]) rfl (by kernel_rfl) (by kernel_rfl) (by kernel_rfl) (fun _ _ _ h => h) (Or.inl ⟨by rfl, ?_⟩) (by assumption) ?_
      · intro w hSw; obtain ⟨s0, s1⟩ := hSw; simp only [List.getElem_toArray, List.getElem_cons_zero, List.getElem_cons_succ]; go_simp
      try simp only [Act.put, List.getElem_toArray, List.getElem_cons_zero, List.getElem_cons_succ, List.setIfInBounds_toArray, List.set_cons_zero, List.set_cons_succ]
      refine wpAnyH_take (i := 6) (v := .slice Av 12 capv) rfl (by kernel_rfl) (by kernel_rfl) (by kernel_rfl) (fun _ _ _ h => h) (Or.inl ⟨by rfl, ?_⟩) (by assumption) ?_
      · intro w hSw; simp only [List.getElem_toArray, List.getElem_cons_zero, List.getElem_cons_succ]; go_simp
      try simp only [Act.put, List.getElem_toArray, List.getElem_cons_zero, List.getElem_cons_succ, List.setIfInBounds_toArray, List.set_cons_zero, List.set_cons_succ]
      clear hHeld
      refine wpAnyH_ready (rs := [0, 4]) (by kernel_rfl) (by simp) ?_
      refine AllReadyH.cons rfl (fun K hK => ?_) ?_
      · simp only [List.getElem_toArray, List.getElem_cons_zero, List.getElem_cons_succ]
        go_simp
        have nb118 : Below W5.heap.size W5 (World.alloc W5 (.cells #[] 42)).drew := (bl_alloc (Below.refl _ _) _).drew
        have hn118 : (World.alloc W5 (.cells #[] 42)).drew.heap[W5.heap.size]? = some _ := heap_alloc_new W5 (.cells #[] 42)
        have ro118 : (World.alloc W5 (.cells #[] 42)).drew.ownsRow W5.heap.size 42 2 (.slice (some ⟨W5.heap.size, 0, none⟩) 0 0) 0 [] := (px_lit W5 0 0).own.drew
        obtain ⟨X1, hX1⟩ : ∃ X1, (World.alloc W5 (.cells #[] 42)).drew = X1 := ⟨_, rfl⟩
        rw [hX1] at nb118 hn118 ro118 ⊢
        clear hX1
        obtain ⟨Z118, hZ118⟩ : ∃ Z, W5.heap.size = Z := ⟨_, rfl⟩
        have b118 := Lib.hid nb118
        have e118 := Lib.hid ro118
        rw [hZ118] at e118 ⊢
        have hZl118 : Z118 = W5.heap.size := hZ118.symm
        have hW5118 : W5.heap.size ≤ Z118 := by rw [← hZ118]; exact Nat.le_refl _
        clear nb118 hn118 hZ118 hZl118 ro118
        refine hK.out _ _ ⟨kc b118.out u0, kc b118.out u1⟩ (fun hHeld => ?_)
        clear hK K
        try simp only [Act.put, List.getElem_toArray, List.getElem_cons_zero, List.getElem_cons_succ, List.setIfInBounds_toArray, List.set_cons_zero, List.set_cons_succ]
        clear hHeld
        refine wpAnyH_ready (rs := [2, 4]) (by kernel_rfl) (by simp) ?_
        refine AllReadyH.cons rfl (fun K hK => ?_) ?_
        · simp only [List.getElem_toArray, List.getElem_cons_zero, List.getElem_cons_succ]
          rw [if_pos (by rfl)]
          refine wp_appC _ _ (by rfl) (by rfl) (by rfl) (by rfl) e118.out (HPA.out.bel b118.out).src HNa1.out.2 HNa1.out.1 (Nat.le_of_lt (e118.out.lt _ rfl).2) (by omega) ?_
          intro v6 w6 hown6 hg6
          have b139 := Lib.hid (b118.out.grown hg6 b118.out.size (by intro j e; cases e; exact hW5118))
          have a139 := Lib.hid hown6
          have zl139 := Nat.le_trans (Nat.le_of_lt (e118.out.lt _ rfl).2) hg6.size
          clear hown6 hg6
          refine hK.out _ _ ⟨kc b139.out u0, kc b139.out u1⟩ (fun hHeld => ?_)
          clear hK K
          try simp only [Act.put, List.getElem_toArray, List.getElem_cons_zero, List.getElem_cons_succ, List.setIfInBounds_toArray, List.set_cons_zero, List.set_cons_succ]
          clear hHeld
          refine wpAnyH_ready (rs := [4]) (by kernel_rfl) (by simp) ?_
          refine AllReadyH.cons rfl (fun K hK => ?_) ?_
          · simp only [List.getElem_toArray, List.getElem_cons_zero, List.getElem_cons_succ]
            go_simp
            have nb153 : Below w6.heap.size w6 (World.alloc w6 (.cells #[.slice (some ⟨H, 0, none⟩) 1 1, .int .i64 1] 42)) := bl_alloc (Below.refl _ _) _
            have hn153 : (World.alloc w6 (.cells #[.slice (some ⟨H, 0, none⟩) 1 1, .int .i64 1] 42)).heap[w6.heap.size]? = some _ := heap_alloc_new w6 (.cells #[.slice (some ⟨H, 0, none⟩) 1 1, .int .i64 1] 42)
            obtain ⟨X2, hX2⟩ : ∃ X2, (World.alloc w6 (.cells #[.slice (some ⟨H, 0, none⟩) 1 1, .int .i64 1] 42)) = X2 := ⟨_, rfl⟩
            rw [hX2] at nb153 hn153 ⊢
            clear hX2
            obtain ⟨Z153, hZ153⟩ : ∃ Z, w6.heap.size = Z := ⟨_, rfl⟩
            have b153 := Lib.hid (bl_trans b139.out nb153)
            have a153 := Lib.hid (row_below' a139.out nb153)
            have zl153 := Nat.le_trans zl139 nb153.size
            have u153 := Lib.hid hn153
            rw [hZ153] at u153 ⊢
            have hZl153 : Z153 = w6.heap.size := hZ153.symm
            have hW5153 : W5.heap.size ≤ Z153 := by rw [← hZ153]; exact b139.out.size
            clear nb153 hn153 hZ153 hZl153
            refine hK.out _ _ ⟨kc b153.out u0, kc b153.out u1⟩ (fun hHeld => ?_)
            clear hK K
            try simp only [Act.put, List.getElem_toArray, List.getElem_cons_zero, List.getElem_cons_succ, List.setIfInBounds_toArray, List.set_cons_zero, List.set_cons_succ]
            clear hHeld
            refine wpAnyH_ready (rs := [5]) (by kernel_rfl) (by simp) ?_
            refine AllReadyH.cons rfl (fun K hK => ?_) ?_
            · simp only [List.getElem_toArray, List.getElem_cons_zero, List.getElem_cons_succ]
              rw [if_pos (by rfl)]
              refine wp_appC _ _ (by rfl) (by rfl) (by rfl) (by rfl) a153.out (srcC_one u153.out rfl rfl) (by simp) (by simp) zl153 (by omega) ?_
              intro v7 w7 hown7 hg7
              have b175 := Lib.hid (b153.out.grown hg7 b153.out.size (fun j e => Nat.le_trans hW5118 (a153.out.lt j e).1))
              have a175 := Lib.hid hown7
              clear hown7 hg7
              have w7u0 := kc b175.out u0
              have w7u1 := kc b175.out u1
              refine hK.out _ _ ⟨w7u0, w7u1⟩ (fun hHeld => ?_)
              clear hK K
              try simp only [Act.put, List.getElem_toArray, List.getElem_cons_zero, List.getElem_cons_succ, List.setIfInBounds_toArray, List.set_cons_zero, List.set_cons_succ]
              clear hHeld
              have ho8 := a175.out
              rw [Nat.zero_add, List.nil_append] at ho8
              obtain ⟨A7, cap7, e7⟩ := row_shape ho8
              subst e7
              have HPx := Lib.hid (show PxP w7 1 (fun _ => unitCon (-(1 + (k : Int)))) [.slice (some ⟨H, 0, none⟩) 1 1, .int .i64 1] from fun i hi => by
                obtain rfl : i = 0 := by omega
                exact ⟨_, _, rfl, rfl, HUn.out.later b175.out⟩)
              have HR7 := Lib.hid (rdp_own ho8 ((HQA.out.later b175.out).cat HPx.out HPA.out.len))
              clear ho8 a175 HPx
              refine wpAnyH_ready (rs := [7]) (by kernel_rfl) (by simp) ?_
              refine AllReadyH.cons rfl (fun K hK => ?_) AllReadyH.nil
              simp only [List.getElem_toArray, List.getElem_cons_zero, List.getElem_cons_succ]
              go_simp
              go_at_call 15
              refine (implProp_any _ _ _ _ _ _ (catP ka p (fun _ => unitCon (-(1 + (k : Int))))) v _ (by omega) hkvB HNc.out HR7.out (HHv.out.later b175.out) (fun _ => HV1.out)).mono ?_
              rintro e w8 ⟨n3, v3, r3, Ar, capr, Tr, rfl, hfr, hb, c1, c0'⟩
              have HB8 := Lib.hid (bl_trans (bl_trans HBW.out b175.out) hb)
              have hu0 := kc hb w7u0
              have hu1 := kc hb w7u1
              have FR8 := Lib.hid hfr.rdAt
              rw [HPc.out] at c1 ⊢
              obtain ⟨e12, hrg3, hrun3⟩ := c1 rfl
              subst e12
              have hx2 := (hrun3.ends (fun j hj => HOc.out j hj)).2
              have HX2 := Lib.hid hx2
              have HG3 := Lib.hid hrg3
              clear hb hfr c1 c0' hx2 hrg3 hrun3
              refine hK.out _ _ ⟨hu0, hu1⟩ (fun hHeld => ?_)
              clear hK K
              try simp only [Act.put, List.getElem_toArray, List.getElem_cons_zero, List.getElem_cons_succ, List.setIfInBounds_toArray, List.set_cons_zero, List.set_cons_succ]
              refine wpAnyH_take (i := 8) (v := .tuple #[.slice Ar 12 capr, .int .i64 r3, .bool true]) rfl (by kernel_rfl) (by kernel_rfl) (by kernel_rfl) (fun _ _ _ h => h) (Or.inl ⟨by rfl, ?_⟩) (by assumption) ?_
              · intro w hSw; simp only [List.getElem_toArray, List.getElem_cons_zero, List.getElem_cons_succ]; go_simp
              try simp only [Act.put, List.getElem_toArray, List.getElem_cons_zero, List.getElem_cons_succ, List.setIfInBounds_toArray, List.set_cons_zero, List.set_cons_succ]
              refine wpAnyH_take (i := 9) (v := .slice Ar 12 capr) rfl (by kernel_rfl) (by kernel_rfl) (by kernel_rfl) (fun _ _ _ h => h) (Or.inl ⟨by rfl, ?_⟩) (by assumption) ?_
              · intro w hSw; simp only [List.getElem_toArray, List.getElem_cons_zero, List.getElem_cons_succ]; go_simp
              try simp only [Act.put, List.getElem_toArray, List.getElem_cons_zero, List.getElem_cons_succ, List.setIfInBounds_toArray, List.set_cons_zero, List.set_cons_succ]
              refine wpAnyH_take (i := 10) (v := .int .i64 r3) rfl (by kernel_rfl) (by kernel_rfl) (by kernel_rfl) (fun _ _ _ h => h) (Or.inl ⟨by rfl, ?_⟩) (by assumption) ?_
              · intro w hSw; simp only [List.getElem_toArray, List.getElem_cons_zero, List.getElem_cons_succ]; go_simp
              try simp only [Act.put, List.getElem_toArray, List.getElem_cons_zero, List.getElem_cons_succ, List.setIfInBounds_toArray, List.set_cons_zero, List.set_cons_succ]
              refine wpAnyH_take (i := 11) (v := .bool true) rfl (by kernel_rfl) (by kernel_rfl) (by kernel_rfl) (fun _ _ _ h => h) (Or.inl ⟨by rfl, ?_⟩) (by assumption) ?_
              · intro w hSw; simp only [List.getElem_toArray, List.getElem_cons_zero, List.getElem_cons_succ]; go_simp
              try simp only [Act.put, List.getElem_toArray, List.getElem_cons_zero, List.getElem_cons_succ, List.setIfInBounds_toArray, List.set_cons_zero, List.set_cons_succ]
              refine wpAnyH_take (i := 12) (v := .slice Ar 12 capr) rfl (by kernel_rfl) (by kernel_rfl) (by kernel_rfl) (fun _ _ _ h => h) (Or.inl ⟨by rfl, ?_⟩) (by assumption) ?_
              · intro w hSw; simp only [List.getElem_toArray, List.getElem_cons_zero, List.getElem_cons_succ]; go_simp
              try simp only [Act.put, List.getElem_toArray, List.getElem_cons_zero, List.getElem_cons_succ, List.setIfInBounds_toArray, List.set_cons_zero, List.set_cons_succ]
              refine wpAnyH_take (i := 13) (v := .int .i64 r3) rfl (by kernel_rfl) (by kernel_rfl) (by kernel_rfl) (fun _ _ _ h => h) (Or.inl ⟨by rfl, ?_⟩) (by assumption) ?_
              · intro w hSw; simp only [List.getElem_toArray, List.getElem_cons_zero, List.getElem_cons_succ]; go_simp
              try simp only [Act.put, List.getElem_toArray, List.getElem_cons_zero, List.getElem_cons_succ, List.setIfInBounds_toArray, List.set_cons_zero, List.set_cons_succ]
              refine wpAnyH_take (i := 14) (v := .bool true) rfl (by kernel_rfl) (by kernel_rfl) (by kernel_rfl) (fun _ _ _ h => h) (Or.inl ⟨by rfl, ?_⟩) (by assumption) ?_
              · intro w hSw; simp only [List.getElem_toArray, List.getElem_cons_zero, List.getElem_cons_succ]; go_simp
              try simp only [Act.put, List.getElem_toArray, List.getElem_cons_zero, List.getElem_cons_succ, List.setIfInBounds_toArray, List.set_cons_zero, List.set_cons_succ]
              refine wpAnyH_done (by kernel_rfl) ?_ _
              refine NoPanic.normal ?_
              clear hHeld hu0 hu1
              by_cases hr3 : 0 ≤ r3
              · go_wp2
                go_ret
                exact ⟨rfl, HB8.out⟩
              · have hfx : fixC (unitCon (-(1 + (k : Int)))) v3 := by
                  rcases HX2.out with ⟨_, h⟩ | ⟨j, _, h, _⟩
                  · have := h (ka + 0) (by omega); rwa [catP_hi] at this
                  · omega
                have hst := unit_fix HZ.out HG3.out hfx
                obtain ⟨b, off, rfl, hbl, hc⟩ := FR8.out (by omega)
                have c0 := hc k hk12
                have hvk : v3 k = -1 := by
                  unfold stV at hst
                  rw [if_neg (by omega), show (-(-(1 + (k : Int))) - 1).toNat = k by omega] at hst
                  omega
                rw [hvk] at c0
                clear hc hvk hst hfx
                have hkI : (k : Int) < 12 := by omega
                have hk0 : (0 : Int) ≤ (k : Int) := by omega
                obtain ⟨z, hz⟩ : ∃ z, -(1 + (k : Int)) = z := ⟨_, rfl⟩
                rw [hz]
                have hzn : ¬ 0 < z := by omega
                have hzm : z < 0 := by omega
                have hw1 : IntKind.i64.wrap (-z) = (k : Int) + 1 := by rw [IntWalk.i64_in _ (by omega)]; omega
                have hw2 : IntKind.i64.wrap ((k : Int) + 1 - 1) = (k : Int) := by rw [IntWalk.i64_in _ (by omega)]; omega
                clear hz HZ HPc HOc HNc HUn HX2
                go_wp2_with fail
                go_ret
                exact ⟨rfl, HB8.out⟩
            exact AllReadyH.nil
          exact AllReadyH.nil
        refine AllReadyH.cons rfl (fun K hK => ?_) ?_
        · simp only [List.getElem_toArray, List.getElem_cons_zero, List.getElem_cons_succ]
          go_simp
          have nb274 : Below X1.heap.size X1 (World.alloc X1 (.cells #[.slice (some ⟨H, 0, none⟩) 1 1, .int .i64 1] 42)) := bl_alloc (Below.refl _ _) _
          have hn274 : (World.alloc X1 (.cells #[.slice (some ⟨H, 0, none⟩) 1 1, .int .i64 1] 42)).heap[X1.heap.size]? = some _ := heap_alloc_new X1 (.cells #[.slice (some ⟨H, 0, none⟩) 1 1, .int .i64 1] 42)
          obtain ⟨X3, hX3⟩ : ∃ X3, (World.alloc X1 (.cells #[.slice (some ⟨H, 0, none⟩) 1 1, .int .i64 1] 42)) = X3 := ⟨_, rfl⟩
          rw [hX3] at nb274 hn274 ⊢
          clear hX3
          obtain ⟨Z274, hZ274⟩ : ∃ Z, X1.heap.size = Z := ⟨_, rfl⟩
          have b274 := Lib.hid (bl_trans b118.out nb274)
          have hE274 : Z118 < X1.heap.size := (e118.out.lt _ rfl).2
          have e274 := Lib.hid (row_below' e118.out nb274)
          have u274 := Lib.hid hn274
          rw [hZ274] at u274 hE274 ⊢
          have hZl274 : Z274 = X1.heap.size := hZ274.symm
          have hW5274 : W5.heap.size ≤ Z274 := by rw [← hZ274]; exact b118.out.size
          clear nb274 hn274 hZ274 hZl274
          refine hK.out _ _ ⟨kc b274.out u0, kc b274.out u1⟩ (fun hHeld => ?_)
          clear hK K
          try simp only [Act.put, List.getElem_toArray, List.getElem_cons_zero, List.getElem_cons_succ, List.setIfInBounds_toArray, List.set_cons_zero, List.set_cons_succ]
          clear hHeld
          refine wpAnyH_ready (rs := [2]) (by kernel_rfl) (by simp) ?_
          refine AllReadyH.cons rfl (fun K hK => ?_) ?_
          · simp only [List.getElem_toArray, List.getElem_cons_zero, List.getElem_cons_succ]
            rw [if_pos (by rfl)]
            refine wp_appC _ _ (by rfl) (by rfl) (by rfl) (by rfl) e274.out (HPA.out.bel b274.out).src HNa1.out.2 HNa1.out.1 (Nat.le_of_lt (e274.out.lt _ rfl).2) (by omega) ?_
            intro v6 w6 hown6 hg6
            have b296 := Lib.hid (b274.out.grown hg6 b274.out.size (by intro j e; cases e; exact hW5118))
            have a296 := Lib.hid hown6
            have zl296 := Nat.le_trans (Nat.le_of_lt (e274.out.lt _ rfl).2) hg6.size
            have u296 := Lib.hid (heap_grown hg6 (by show some _ ≠ some _; have := hE274; simp; omega) u274.out)
            clear hown6 hg6
            refine hK.out _ _ ⟨kc b296.out u0, kc b296.out u1⟩ (fun hHeld => ?_)
            clear hK K
            try simp only [Act.put, List.getElem_toArray, List.getElem_cons_zero, List.getElem_cons_succ, List.setIfInBounds_toArray, List.set_cons_zero, List.set_cons_succ]
            clear hHeld
            refine wpAnyH_ready (rs := [5]) (by kernel_rfl) (by simp) ?_
            refine AllReadyH.cons rfl (fun K hK => ?_) ?_
            · simp only [List.getElem_toArray, List.getElem_cons_zero, List.getElem_cons_succ]
              rw [if_pos (by rfl)]
              refine wp_appC _ _ (by rfl) (by rfl) (by rfl) (by rfl) a296.out (srcC_one u296.out rfl rfl) (by simp) (by simp) zl296 (by omega) ?_
              intro v7 w7 hown7 hg7
              have b311 := Lib.hid (b296.out.grown hg7 b296.out.size (fun j e => Nat.le_trans hW5118 (a296.out.lt j e).1))
              have a311 := Lib.hid hown7
              clear hown7 hg7
              have w7u0 := kc b311.out u0
              have w7u1 := kc b311.out u1
              refine hK.out _ _ ⟨w7u0, w7u1⟩ (fun hHeld => ?_)
              clear hK K
              try simp only [Act.put, List.getElem_toArray, List.getElem_cons_zero, List.getElem_cons_succ, List.setIfInBounds_toArray, List.set_cons_zero, List.set_cons_succ]
              clear hHeld
              have ho8 := a311.out
              rw [Nat.zero_add, List.nil_append] at ho8
              obtain ⟨A7, cap7, e7⟩ := row_shape ho8
              subst e7
              have HPx := Lib.hid (show PxP w7 1 (fun _ => unitCon (-(1 + (k : Int)))) [.slice (some ⟨H, 0, none⟩) 1 1, .int .i64 1] from fun i hi => by
                obtain rfl : i = 0 := by omega
                exact ⟨_, _, rfl, rfl, HUn.out.later b311.out⟩)
              have HR7 := Lib.hid (rdp_own ho8 ((HQA.out.later b311.out).cat HPx.out HPA.out.len))
              clear ho8 a311 HPx
              refine wpAnyH_ready (rs := [7]) (by kernel_rfl) (by simp) ?_
              refine AllReadyH.cons rfl (fun K hK => ?_) AllReadyH.nil
              simp only [List.getElem_toArray, List.getElem_cons_zero, List.getElem_cons_succ]
              go_simp
              go_at_call 15
              refine (implProp_any _ _ _ _ _ _ (catP ka p (fun _ => unitCon (-(1 + (k : Int))))) v _ (by omega) hkvB HNc.out HR7.out (HHv.out.later b311.out) (fun _ => HV1.out)).mono ?_
              rintro e w8 ⟨n3, v3, r3, Ar, capr, Tr, rfl, hfr, hb, c1, c0'⟩
              have HB8 := Lib.hid (bl_trans (bl_trans HBW.out b311.out) hb)
              have hu0 := kc hb w7u0
              have hu1 := kc hb w7u1
              have FR8 := Lib.hid hfr.rdAt
              rw [HPc.out] at c1 ⊢
              obtain ⟨e12, hrg3, hrun3⟩ := c1 rfl
              subst e12
              have hx2 := (hrun3.ends (fun j hj => HOc.out j hj)).2
              have HX2 := Lib.hid hx2
              have HG3 := Lib.hid hrg3
              clear hb hfr c1 c0' hx2 hrg3 hrun3
              refine hK.out _ _ ⟨hu0, hu1⟩ (fun hHeld => ?_)
              clear hK K
              try simp only [Act.put, List.getElem_toArray, List.getElem_cons_zero, List.getElem_cons_succ, List.setIfInBounds_toArray, List.set_cons_zero, List.set_cons_succ]
              refine wpAnyH_take (i := 8) (v := .tuple #[.slice Ar 12 capr, .int .i64 r3, .bool true]) rfl (by kernel_rfl) (by kernel_rfl) (by kernel_rfl) (fun _ _ _ h => h) (Or.inl ⟨by rfl, ?_⟩) (by assumption) ?_
              · intro w hSw; simp only [List.getElem_toArray, List.getElem_cons_zero, List.getElem_cons_succ]; go_simp
              try simp only [Act.put, List.getElem_toArray, List.getElem_cons_zero, List.getElem_cons_succ, List.setIfInBounds_toArray, List.set_cons_zero, List.set_cons_succ]
              refine wpAnyH_take (i := 9) (v := .slice Ar 12 capr) rfl (by kernel_rfl) (by kernel_rfl) (by kernel_rfl) (fun _ _ _ h => h) (Or.inl ⟨by rfl, ?_⟩) (by assumption) ?_
              · intro w hSw; simp only [List.getElem_toArray, List.getElem_cons_zero, List.getElem_cons_succ]; go_simp
              try simp only [Act.put, List.getElem_toArray, List.getElem_cons_zero, List.getElem_cons_succ, List.setIfInBounds_toArray, List.set_cons_zero, List.set_cons_succ]
              refine wpAnyH_take (i := 10) (v := .int .i64 r3) rfl (by kernel_rfl) (by kernel_rfl) (by kernel_rfl) (fun _ _ _ h => h) (Or.inl ⟨by rfl, ?_⟩) (by assumption) ?_
              · intro w hSw; simp only [List.getElem_toArray, List.getElem_cons_zero, List.getElem_cons_succ]; go_simp
              try simp only [Act.put, List.getElem_toArray, List.getElem_cons_zero, List.getElem_cons_succ, List.setIfInBounds_toArray, List.set_cons_zero, List.set_cons_succ]
              refine wpAnyH_take (i := 11) (v := .bool true) rfl (by kernel_rfl) (by kernel_rfl) (by kernel_rfl) (fun _ _ _ h => h) (Or.inl ⟨by rfl, ?_⟩) (by assumption) ?_
              · intro w hSw; simp only [List.getElem_toArray, List.getElem_cons_zero, List.getElem_cons_succ]; go_simp
              try simp only [Act.put, List.getElem_toArray, List.getElem_cons_zero, List.getElem_cons_succ, List.setIfInBounds_toArray, List.set_cons_zero, List.set_cons_succ]
              refine wpAnyH_take (i := 12) (v := .slice Ar 12 capr) rfl (by kernel_rfl) (by kernel_rfl) (by kernel_rfl) (fun _ _ _ h => h) (Or.inl ⟨by rfl, ?_⟩) (by assumption) ?_
              · intro w hSw; simp only [List.getElem_toArray, List.getElem_cons_zero, List.getElem_cons_succ]; go_simp
              try simp only [Act.put, List.getElem_toArray, List.getElem_cons_zero, List.getElem_cons_succ, List.setIfInBounds_toArray, List.set_cons_zero, List.set_cons_succ]
              refine wpAnyH_take (i := 13) (v := .int .i64 r3) rfl (by kernel_rfl) (by kernel_rfl) (by kernel_rfl) (fun _ _ _ h => h) (Or.inl ⟨by rfl, ?_⟩) (by assumption) ?_
              · intro w hSw; simp only [List.getElem_toArray, List.getElem_cons_zero, List.getElem_cons_succ]; go_simp
              try simp only [Act.put, List.getElem_toArray, List.getElem_cons_zero, List.getElem_cons_succ, List.setIfInBounds_toArray, List.set_cons_zero, List.set_cons_succ]
              refine wpAnyH_take (i := 14) (v := .bool true) rfl (by kernel_rfl) (by kernel_rfl) (by kernel_rfl) (fun _ _ _ h => h) (Or.inl ⟨by rfl, ?_⟩) (by assumption) ?_
              · intro w hSw; simp only [List.getElem_toArray, List.getElem_cons_zero, List.getElem_cons_succ]; go_simp
              try simp only [Act.put, List.getElem_toArray, List.getElem_cons_zero, List.getElem_cons_succ, List.setIfInBounds_toArray, List.set_cons_zero, List.set_cons_succ]
              refine wpAnyH_done (by kernel_rfl) ?_ _
              refine NoPanic.normal ?_
              clear hHeld hu0 hu1
              by_cases hr3 : 0 ≤ r3
              · go_wp2
                go_ret
                exact ⟨rfl, HB8.out⟩
              · have hfx : fixC (unitCon (-(1 + (k : Int)))) v3 := by
                  rcases HX2.out with ⟨_, h⟩ | ⟨j, _, h, _⟩
                  · have := h (ka + 0) (by omega); rwa [catP_hi] at this
                  · omega
                have hst := unit_fix HZ.out HG3.out hfx
                obtain ⟨b, off, rfl, hbl, hc⟩ := FR8.out (by omega)
                have c0 := hc k hk12
                have hvk : v3 k = -1 := by
                  unfold stV at hst
                  rw [if_neg (by omega), show (-(-(1 + (k : Int))) - 1).toNat = k by omega] at hst
                  omega
                rw [hvk] at c0
                clear hc hvk hst hfx
                have hkI : (k : Int) < 12 := by omega
                have hk0 : (0 : Int) ≤ (k : Int) := by omega
                obtain ⟨z, hz⟩ : ∃ z, -(1 + (k : Int)) = z := ⟨_, rfl⟩
                rw [hz]
                have hzn : ¬ 0 < z := by omega
                have hzm : z < 0 := by omega
                have hw1 : IntKind.i64.wrap (-z) = (k : Int) + 1 := by rw [IntWalk.i64_in _ (by omega)]; omega
                have hw2 : IntKind.i64.wrap ((k : Int) + 1 - 1) = (k : Int) := by rw [IntWalk.i64_in _ (by omega)]; omega
                clear hz HZ HPc HOc HNc HUn HX2
                go_wp2_with fail
                go_ret
                exact ⟨rfl, HB8.out⟩
            exact AllReadyH.nil
          exact AllReadyH.nil
        exact AllReadyH.nil
      refine AllReadyH.cons rfl (fun K hK => ?_) ?_
      · simp only [List.getElem_toArray, List.getElem_cons_zero, List.getElem_cons_succ]
        go_simp
        have nb411 : Below W5.heap.size W5 (World.alloc W5 (.cells #[.slice (some ⟨H, 0, none⟩) 1 1, .int .i64 1] 42)).drew := (bl_alloc (Below.refl _ _) _).drew
        have hn411 : (World.alloc W5 (.cells #[.slice (some ⟨H, 0, none⟩) 1 1, .int .i64 1] 42)).drew.heap[W5.heap.size]? = some _ := heap_alloc_new W5 (.cells #[.slice (some ⟨H, 0, none⟩) 1 1, .int .i64 1] 42)
        obtain ⟨X4, hX4⟩ : ∃ X4, (World.alloc W5 (.cells #[.slice (some ⟨H, 0, none⟩) 1 1, .int .i64 1] 42)).drew = X4 := ⟨_, rfl⟩
        rw [hX4] at nb411 hn411 ⊢
        clear hX4
        obtain ⟨Z411, hZ411⟩ : ∃ Z, W5.heap.size = Z := ⟨_, rfl⟩
        have b411 := Lib.hid nb411
        have u411 := Lib.hid hn411
        rw [hZ411] at u411 ⊢
        have hZl411 : Z411 = W5.heap.size := hZ411.symm
        have hW5411 : W5.heap.size ≤ Z411 := by rw [← hZ411]; exact Nat.le_refl _
        clear nb411 hn411 hZ411 hZl411
        refine hK.out _ _ ⟨kc b411.out u0, kc b411.out u1⟩ (fun hHeld => ?_)
        clear hK K
        try simp only [Act.put, List.getElem_toArray, List.getElem_cons_zero, List.getElem_cons_succ, List.setIfInBounds_toArray, List.set_cons_zero, List.set_cons_succ]
        clear hHeld
        refine wpAnyH_ready (rs := [0]) (by kernel_rfl) (by simp) ?_
        refine AllReadyH.cons rfl (fun K hK => ?_) ?_
        · simp only [List.getElem_toArray, List.getElem_cons_zero, List.getElem_cons_succ]
          go_simp
          have nb431 : Below X4.heap.size X4 (World.alloc X4 (.cells #[] 42)) := bl_alloc (Below.refl _ _) _
          have hn431 : (World.alloc X4 (.cells #[] 42)).heap[X4.heap.size]? = some _ := heap_alloc_new X4 (.cells #[] 42)
          have ro431 : (World.alloc X4 (.cells #[] 42)).ownsRow X4.heap.size 42 2 (.slice (some ⟨X4.heap.size, 0, none⟩) 0 0) 0 [] := (px_lit X4 0 0).own
          obtain ⟨X5, hX5⟩ : ∃ X5, (World.alloc X4 (.cells #[] 42)) = X5 := ⟨_, rfl⟩
          rw [hX5] at nb431 hn431 ro431 ⊢
          clear hX5
          obtain ⟨Z431, hZ431⟩ : ∃ Z, X4.heap.size = Z := ⟨_, rfl⟩
          have b431 := Lib.hid (bl_trans b411.out nb431)
          have hU431 : Z411 < X4.heap.size := (show _ from by have := u411.out; rcases Nat.lt_or_ge Z411 X4.heap.size with h | h; exact h; rw [Array.getElem?_eq_none h] at this; cases this)
          have u431 := Lib.hid (heap_keep nb431 u411.out)
          have e431 := Lib.hid ro431
          rw [hZ431] at e431 hU431 ⊢
          have hZl431 : Z431 = X4.heap.size := hZ431.symm
          have hW5431 : W5.heap.size ≤ Z431 := by rw [← hZ431]; exact b411.out.size
          clear nb431 hn431 hZ431 hZl431 ro431
          refine hK.out _ _ ⟨kc b431.out u0, kc b431.out u1⟩ (fun hHeld => ?_)
          clear hK K
          try simp only [Act.put, List.getElem_toArray, List.getElem_cons_zero, List.getElem_cons_succ, List.setIfInBounds_toArray, List.set_cons_zero, List.set_cons_succ]
          clear hHeld
          refine wpAnyH_ready (rs := [2]) (by kernel_rfl) (by simp) ?_
          refine AllReadyH.cons rfl (fun K hK => ?_) ?_
          · simp only [List.getElem_toArray, List.getElem_cons_zero, List.getElem_cons_succ]
            rw [if_pos (by rfl)]
            refine wp_appC _ _ (by rfl) (by rfl) (by rfl) (by rfl) e431.out (HPA.out.bel b431.out).src HNa1.out.2 HNa1.out.1 (Nat.le_of_lt (e431.out.lt _ rfl).2) (by omega) ?_
            intro v6 w6 hown6 hg6
            have b454 := Lib.hid (b431.out.grown hg6 b431.out.size (by intro j e; cases e; exact hW5431))
            have a454 := Lib.hid hown6
            have zl454 := Nat.le_trans (Nat.le_of_lt (e431.out.lt _ rfl).2) hg6.size
            have u454 := Lib.hid (heap_grown hg6 (by show some _ ≠ some _; have := hU431; simp; omega) u431.out)
            clear hown6 hg6
            refine hK.out _ _ ⟨kc b454.out u0, kc b454.out u1⟩ (fun hHeld => ?_)
            clear hK K
            try simp only [Act.put, List.getElem_toArray, List.getElem_cons_zero, List.getElem_cons_succ, List.setIfInBounds_toArray, List.set_cons_zero, List.set_cons_succ]
            clear hHeld
            refine wpAnyH_ready (rs := [5]) (by kernel_rfl) (by simp) ?_
            refine AllReadyH.cons rfl (fun K hK => ?_) ?_
            · simp only [List.getElem_toArray, List.getElem_cons_zero, List.getElem_cons_succ]
              rw [if_pos (by rfl)]
              refine wp_appC _ _ (by rfl) (by rfl) (by rfl) (by rfl) a454.out (srcC_one u454.out rfl rfl) (by simp) (by simp) zl454 (by omega) ?_
              intro v7 w7 hown7 hg7
              have b469 := Lib.hid (b454.out.grown hg7 b454.out.size (fun j e => Nat.le_trans hW5431 (a454.out.lt j e).1))
              have a469 := Lib.hid hown7
              clear hown7 hg7
              have w7u0 := kc b469.out u0
              have w7u1 := kc b469.out u1
              refine hK.out _ _ ⟨w7u0, w7u1⟩ (fun hHeld => ?_)
              clear hK K
              try simp only [Act.put, List.getElem_toArray, List.getElem_cons_zero, List.getElem_cons_succ, List.setIfInBounds_toArray, List.set_cons_zero, List.set_cons_succ]
              clear hHeld
              have ho8 := a469.out
              rw [Nat.zero_add, List.nil_append] at ho8
              obtain ⟨A7, cap7, e7⟩ := row_shape ho8
              subst e7
              have HPx := Lib.hid (show PxP w7 1 (fun _ => unitCon (-(1 + (k : Int)))) [.slice (some ⟨H, 0, none⟩) 1 1, .int .i64 1] from fun i hi => by
                obtain rfl : i = 0 := by omega
                exact ⟨_, _, rfl, rfl, HUn.out.later b469.out⟩)
              have HR7 := Lib.hid (rdp_own ho8 ((HQA.out.later b469.out).cat HPx.out HPA.out.len))
              clear ho8 a469 HPx
              refine wpAnyH_ready (rs := [7]) (by kernel_rfl) (by simp) ?_
              refine AllReadyH.cons rfl (fun K hK => ?_) AllReadyH.nil
              simp only [List.getElem_toArray, List.getElem_cons_zero, List.getElem_cons_succ]
              go_simp
              go_at_call 15
              refine (implProp_any _ _ _ _ _ _ (catP ka p (fun _ => unitCon (-(1 + (k : Int))))) v _ (by omega) hkvB HNc.out HR7.out (HHv.out.later b469.out) (fun _ => HV1.out)).mono ?_
              rintro e w8 ⟨n3, v3, r3, Ar, capr, Tr, rfl, hfr, hb, c1, c0'⟩
              have HB8 := Lib.hid (bl_trans (bl_trans HBW.out b469.out) hb)
              have hu0 := kc hb w7u0
              have hu1 := kc hb w7u1
              have FR8 := Lib.hid hfr.rdAt
              rw [HPc.out] at c1 ⊢
              obtain ⟨e12, hrg3, hrun3⟩ := c1 rfl
              subst e12
              have hx2 := (hrun3.ends (fun j hj => HOc.out j hj)).2
              have HX2 := Lib.hid hx2
              have HG3 := Lib.hid hrg3
              clear hb hfr c1 c0' hx2 hrg3 hrun3
              refine hK.out _ _ ⟨hu0, hu1⟩ (fun hHeld => ?_)
              clear hK K
              try simp only [Act.put, List.getElem_toArray, List.getElem_cons_zero, List.getElem_cons_succ, List.setIfInBounds_toArray, List.set_cons_zero, List.set_cons_succ]
              refine wpAnyH_take (i := 8) (v := .tuple #[.slice Ar 12 capr, .int .i64 r3, .bool true]) rfl (by kernel_rfl) (by kernel_rfl) (by kernel_rfl) (fun _ _ _ h => h) (Or.inl ⟨by rfl, ?_⟩) (by assumption) ?_
              · intro w hSw; simp only [List.getElem_toArray, List.getElem_cons_zero, List.getElem_cons_succ]; go_simp
              try simp only [Act.put, List.getElem_toArray, List.getElem_cons_zero, List.getElem_cons_succ, List.setIfInBounds_toArray, List.set_cons_zero, List.set_cons_succ]
              refine wpAnyH_take (i := 9) (v := .slice Ar 12 capr) rfl (by kernel_rfl) (by kernel_rfl) (by kernel_rfl) (fun _ _ _ h => h) (Or.inl ⟨by rfl, ?_⟩) (by assumption) ?_
              · intro w hSw; simp only [List.getElem_toArray, List.getElem_cons_zero, List.getElem_cons_succ]; go_simp
              try simp only [Act.put, List.getElem_toArray, List.getElem_cons_zero, List.getElem_cons_succ, List.setIfInBounds_toArray, List.set_cons_zero, List.set_cons_succ]
              refine wpAnyH_take (i := 10) (v := .int .i64 r3) rfl (by kernel_rfl) (by kernel_rfl) (by kernel_rfl) (fun _ _ _ h => h) (Or.inl ⟨by rfl, ?_⟩) (by assumption) ?_
              · intro w hSw; simp only [List.getElem_toArray, List.getElem_cons_zero, List.getElem_cons_succ]; go_simp
              try simp only [Act.put, List.getElem_toArray, List.getElem_cons_zero, List.getElem_cons_succ, List.setIfInBounds_toArray, List.set_cons_zero, List.set_cons_succ]
              refine wpAnyH_take (i := 11) (v := .bool true) rfl (by kernel_rfl) (by kernel_rfl) (by kernel_rfl) (fun _ _ _ h => h) (Or.inl ⟨by rfl, ?_⟩) (by assumption) ?_
              · intro w hSw; simp only [List.getElem_toArray, List.getElem_cons_zero, List.getElem_cons_succ]; go_simp
              try simp only [Act.put, List.getElem_toArray, List.getElem_cons_zero, List.getElem_cons_succ, List.setIfInBounds_toArray, List.set_cons_zero, List.set_cons_succ]
              refine wpAnyH_take (i := 12) (v := .slice Ar 12 capr) rfl (by kernel_rfl) (by kernel_rfl) (by kernel_rfl) (fun _ _ _ h => h) (Or.inl ⟨by rfl, ?_⟩) (by assumption) ?_
              · intro w hSw; simp only [List.getElem_toArray, List.getElem_cons_zero, List.getElem_cons_succ]; go_simp
              try simp only [Act.put, List.getElem_toArray, List.getElem_cons_zero, List.getElem_cons_succ, List.setIfInBounds_toArray, List.set_cons_zero, List.set_cons_succ]
              refine wpAnyH_take (i := 13) (v := .int .i64 r3) rfl (by kernel_rfl) (by kernel_rfl) (by kernel_rfl) (fun _ _ _ h => h) (Or.inl ⟨by rfl, ?_⟩) (by assumption) ?_
              · intro w hSw; simp only [List.getElem_toArray, List.getElem_cons_zero, List.getElem_cons_succ]; go_simp
              try simp only [Act.put, List.getElem_toArray, List.getElem_cons_zero, List.getElem_cons_succ, List.setIfInBounds_toArray, List.set_cons_zero, List.set_cons_succ]
              refine wpAnyH_take (i := 14) (v := .bool true) rfl (by kernel_rfl) (by kernel_rfl) (by kernel_rfl) (fun _ _ _ h => h) (Or.inl ⟨by rfl, ?_⟩) (by assumption) ?_
              · intro w hSw; simp only [List.getElem_toArray, List.getElem_cons_zero, List.getElem_cons_succ]; go_simp
              try simp only [Act.put, List.getElem_toArray, List.getElem_cons_zero, List.getElem_cons_succ, List.setIfInBounds_toArray, List.set_cons_zero, List.set_cons_succ]
              refine wpAnyH_done (by kernel_rfl) ?_ _
              refine NoPanic.normal ?_
              clear hHeld hu0 hu1
              by_cases hr3 : 0 ≤ r3
              · go_wp2
                go_ret
                exact ⟨rfl, HB8.out⟩
              · have hfx : fixC (unitCon (-(1 + (k : Int)))) v3 := by
                  rcases HX2.out with ⟨_, h⟩ | ⟨j, _, h, _⟩
                  · have := h (ka + 0) (by omega); rwa [catP_hi] at this
                  · omega
                have hst := unit_fix HZ.out HG3.out hfx
                obtain ⟨b, off, rfl, hbl, hc⟩ := FR8.out (by omega)
                have c0 := hc k hk12
                have hvk : v3 k = -1 := by
                  unfold stV at hst
                  rw [if_neg (by omega), show (-(-(1 + (k : Int))) - 1).toNat = k by omega] at hst
                  omega
                rw [hvk] at c0
                clear hc hvk hst hfx
                have hkI : (k : Int) < 12 := by omega
                have hk0 : (0 : Int) ≤ (k : Int) := by omega
                obtain ⟨z, hz⟩ : ∃ z, -(1 + (k : Int)) = z := ⟨_, rfl⟩
                rw [hz]
                have hzn : ¬ 0 < z := by omega
                have hzm : z < 0 := by omega
                have hw1 : IntKind.i64.wrap (-z) = (k : Int) + 1 := by rw [IntWalk.i64_in _ (by omega)]; omega
                have hw2 : IntKind.i64.wrap ((k : Int) + 1 - 1) = (k : Int) := by rw [IntWalk.i64_in _ (by omega)]; omega
                clear hz HZ HPc HOc HNc HUn HX2
                go_wp2_with fail
                go_ret
                exact ⟨rfl, HB8.out⟩
            exact AllReadyH.nil
          exact AllReadyH.nil
        exact AllReadyH.nil
      exact AllReadyH.nil
    · have ht0 : t = 0 := by omega
      subst ht0
      have hz : litB (1 + (k : Int)) = true := litB_iff.2 ⟨by omega, by omega, by omega⟩
      have HPc := Lib.hid (show (probB (ka + 1) (catP ka p (fun _ => unitCon (1 + (k : Int)))) && pvB 12 v) = true from by rw [prob_cat Hpa0.out (prob_unit hz) (by omega), Hpv0.out]; rfl)
      have HOc := Lib.hid (ok_cat (p := p) (q := fun _ => unitCon (1 + (k : Int))) (m := 1) (fun i hi => HOk.out i hi) (fun i hi => unit_ok hz))
      have HNc := Lib.hid (show ∀ i, i < ka + 1 → (catP ka p (fun _ => unitCon (1 + (k : Int))) i).n ≤ 1048576 from fun i hi => by
        unfold catP
        split
        · exact HNa.out i (by omega)
        · show 1 ≤ 1048576; omega)
      have HZ := Lib.hid hz
      clear hz
      go_wp2_with fail
      have u0 : ((w4.alloc (.cells #[.int .i64 1, .int .i64 (1 + (k : Int))] 58)).alloc (.cells #[.slice (some ⟨w4.heap.size, 0, none⟩) 1 1, .int .i64 1] 42)).cell? ⟨w4.heap.size + 1, 0, none⟩ = some (.slice (some ⟨w4.heap.size, 0, none⟩) 1 1) := by go_simp
      have u1 : ((w4.alloc (.cells #[.int .i64 1, .int .i64 (1 + (k : Int))] 58)).alloc (.cells #[.slice (some ⟨w4.heap.size, 0, none⟩) 1 1, .int .i64 1] 42)).cell? ⟨w4.heap.size + 1, 1, none⟩ = some (.int .i64 1) := by go_simp
      have v0 : ((w4.alloc (.cells #[.int .i64 1, .int .i64 (1 + (k : Int))] 58)).alloc (.cells #[.slice (some ⟨w4.heap.size, 0, none⟩) 1 1, .int .i64 1] 42)).cell? ⟨w4.heap.size, 0, none⟩ = some (.int .i64 1) := by go_simp
      have v1 : ((w4.alloc (.cells #[.int .i64 1, .int .i64 (1 + (k : Int))] 58)).alloc (.cells #[.slice (some ⟨w4.heap.size, 0, none⟩) 1 1, .int .i64 1] 42)).cell? ⟨w4.heap.size, 1, none⟩ = some (.int .i64 (1 + (k : Int))) := by go_simp
      have HB5 := Lib.hid (bl_alloc (bl_alloc (Below.refl w4.heap.size w4) (.cells #[.int .i64 1, .int .i64 (1 + (k : Int))] 58)) (.cells #[.slice (some ⟨w4.heap.size, 0, none⟩) 1 1, .int .i64 1] 42))
      generalize ((w4.alloc (.cells #[.int .i64 1, .int .i64 (1 + (k : Int))] 58)).alloc (.cells #[.slice (some ⟨w4.heap.size, 0, none⟩) 1 1, .int .i64 1] 42)) = W5 at *
      have hH : w4.heap.size < W5.heap.size := World.block_lt_of_cell? W5 _ v0
      have HUn := Lib.hid (show Rd W5 W5.heap.size (some ⟨w4.heap.size, 0, none⟩) 1 (fun _ => 1) (fun _ => (1 + (k : Int))) from fun _ => ⟨w4.heap.size, 0, rfl, hH, fun i hi => by
        obtain rfl : i = 0 := by omega
        exact ⟨v0, v1⟩⟩)
      clear v0 v1
      have HPA := Lib.hid (PA4.out.bel HB5.out)
      have HQA := Lib.hid (QA4.out.later HB5.out)
      have HHv := Lib.hid (Hv4.out.later HB5.out)
      have HBW := Lib.hid (bl_trans HB4.out HB5.out)
      obtain ⟨H, hHe⟩ : ∃ H, w4.heap.size = H := ⟨_, rfl⟩
      rw [hHe] at u0 u1 hH HUn ⊢
      clear PA4 QA4 Hv4 FQ3 HB5 hHe
      refine wp_region_noPanic ?_
      refine wp_region_held_drew (S := fun w' => w'.cell? ⟨H + 1, 0, none⟩ = some (.slice (some ⟨H, 0, none⟩) 1 1) ∧ w'.cell? ⟨H + 1, 1, none⟩ = some (.int .i64 1)) (by kernel_rfl) ⟨by simpa using u0, by simpa using u1⟩ (fun hHeld => ?_)
      refine wpAnyH_take (i := 1) (v := .slice Aa ka capa) rfl (by kernel_rfl) (by kernel_rfl) (by kernel_rfl) (fun _ _ _ h => h) (Or.inl ⟨by rfl, ?_⟩) (by assumption) ?_
      · intro w hSw; simp only [List.getElem_toArray, List.getElem_cons_zero, List.getElem_cons_succ]; go_simp
      try simp only [Act.put, List.getElem_toArray, List.getElem_cons_zero, List.getElem_cons_succ, List.setIfInBounds_toArray, List.set_cons_zero, List.set_cons_succ]
      refine wpAnyH_take (i := 3) (v := .agg #[.slice (some ⟨H, 0, none⟩) 1 1, .int .i64 1]) rfl (by kernel_rfl) (by kernel_rfl) (by kernel_rfl) (fun _ _ _ h => h) (Or.inl ⟨by rfl, ?_⟩) (by assumption) ?_
      · intro w hSw; obtain ⟨s0, s1⟩ := hSw; simp only [List.getElem_toArray, List.getElem_cons_zero, List.getElem_cons_succ]; go_simp
      try simp only [Act.put, List.getElem_toArray, List.getElem_cons_zero, List.getElem_cons_succ, List.setIfInBounds_toArray, List.set_cons_zero, List.set_cons_succ]
      refine wpAnyH_take (i := 6) (v := .slice Av 12 capv) rfl (by kernel_rfl) (by kernel_rfl) (by kernel_rfl) (fun _ _ _ h => h) (Or.inl ⟨by rfl, ?_⟩) (by assumption) ?_
      · intro w hSw; simp only [List.getElem_toArray, List.getElem_cons_zero, List.getElem_cons_succ]; go_simp
      try simp only [Act.put, List.getElem_toArray, List.getElem_cons_zero, List.getElem_cons_succ, List.setIfInBounds_toArray, List.set_cons_zero, List.set_cons_succ]
      clear hHeld
      refine wpAnyH_ready (rs := [0, 4]) (by kernel_rfl) (by simp) ?_
      refine AllReadyH.cons rfl (fun K hK => ?_) ?_
      · simp only [List.getElem_toArray, List.getElem_cons_zero, List.getElem_cons_succ]
        go_simp
        have nb614 : Below W5.heap.size W5 (World.alloc W5 (.cells #[] 42)).drew := (bl_alloc (Below.refl _ _) _).drew
        have hn614 : (World.alloc W5 (.cells #[] 42)).drew.heap[W5.heap.size]? = some _ := heap_alloc_new W5 (.cells #[] 42)
        have ro614 : (World.alloc W5 (.cells #[] 42)).drew.ownsRow W5.heap.size 42 2 (.slice (some ⟨W5.heap.size, 0, none⟩) 0 0) 0 [] := (px_lit W5 0 0).own.drew
        obtain ⟨X1, hX1⟩ : ∃ X1, (World.alloc W5 (.cells #[] 42)).drew = X1 := ⟨_, rfl⟩
        rw [hX1] at nb614 hn614 ro614 ⊢
        clear hX1
        obtain ⟨Z614, hZ614⟩ : ∃ Z, W5.heap.size = Z := ⟨_, rfl⟩
        have b614 := Lib.hid nb614
        have e614 := Lib.hid ro614
        rw [hZ614] at e614 ⊢
        have hZl614 : Z614 = W5.heap.size := hZ614.symm
        have hW5614 : W5.heap.size ≤ Z614 := by rw [← hZ614]; exact Nat.le_refl _
        clear nb614 hn614 hZ614 hZl614 ro614
        refine hK.out _ _ ⟨kc b614.out u0, kc b614.out u1⟩ (fun hHeld => ?_)
        clear hK K
        try simp only [Act.put, List.getElem_toArray, List.getElem_cons_zero, List.getElem_cons_succ, List.setIfInBounds_toArray, List.set_cons_zero, List.set_cons_succ]
        clear hHeld
        refine wpAnyH_ready (rs := [2, 4]) (by kernel_rfl) (by simp) ?_
        refine AllReadyH.cons rfl (fun K hK => ?_) ?_
        · simp only [List.getElem_toArray, List.getElem_cons_zero, List.getElem_cons_succ]
          rw [if_pos (by rfl)]
          refine wp_appC _ _ (by rfl) (by rfl) (by rfl) (by rfl) e614.out (HPA.out.bel b614.out).src HNa1.out.2 HNa1.out.1 (Nat.le_of_lt (e614.out.lt _ rfl).2) (by omega) ?_
          intro v6 w6 hown6 hg6
          have b635 := Lib.hid (b614.out.grown hg6 b614.out.size (by intro j e; cases e; exact hW5614))
          have a635 := Lib.hid hown6
          have zl635 := Nat.le_trans (Nat.le_of_lt (e614.out.lt _ rfl).2) hg6.size
          clear hown6 hg6
          refine hK.out _ _ ⟨kc b635.out u0, kc b635.out u1⟩ (fun hHeld => ?_)
          clear hK K
          try simp only [Act.put, List.getElem_toArray, List.getElem_cons_zero, List.getElem_cons_succ, List.setIfInBounds_toArray, List.set_cons_zero, List.set_cons_succ]
          clear hHeld
          refine wpAnyH_ready (rs := [4]) (by kernel_rfl) (by simp) ?_
          refine AllReadyH.cons rfl (fun K hK => ?_) ?_
          · simp only [List.getElem_toArray, List.getElem_cons_zero, List.getElem_cons_succ]
            go_simp
            have nb649 : Below w6.heap.size w6 (World.alloc w6 (.cells #[.slice (some ⟨H, 0, none⟩) 1 1, .int .i64 1] 42)) := bl_alloc (Below.refl _ _) _
            have hn649 : (World.alloc w6 (.cells #[.slice (some ⟨H, 0, none⟩) 1 1, .int .i64 1] 42)).heap[w6.heap.size]? = some _ := heap_alloc_new w6 (.cells #[.slice (some ⟨H, 0, none⟩) 1 1, .int .i64 1] 42)
            obtain ⟨X2, hX2⟩ : ∃ X2, (World.alloc w6 (.cells #[.slice (some ⟨H, 0, none⟩) 1 1, .int .i64 1] 42)) = X2 := ⟨_, rfl⟩
            rw [hX2] at nb649 hn649 ⊢
            clear hX2
            obtain ⟨Z649, hZ649⟩ : ∃ Z, w6.heap.size = Z := ⟨_, rfl⟩
            have b649 := Lib.hid (bl_trans b635.out nb649)
            have a649 := Lib.hid (row_below' a635.out nb649)
            have zl649 := Nat.le_trans zl635 nb649.size
            have u649 := Lib.hid hn649
            rw [hZ649] at u649 ⊢
            have hZl649 : Z649 = w6.heap.size := hZ649.symm
            have hW5649 : W5.heap.size ≤ Z649 := by rw [← hZ649]; exact b635.out.size
            clear nb649 hn649 hZ649 hZl649
            refine hK.out _ _ ⟨kc b649.out u0, kc b649.out u1⟩ (fun hHeld => ?_)
            clear hK K
            try simp only [Act.put, List.getElem_toArray, List.getElem_cons_zero, List.getElem_cons_succ, List.setIfInBounds_toArray, List.set_cons_zero, List.set_cons_succ]
            clear hHeld
            refine wpAnyH_ready (rs := [5]) (by kernel_rfl) (by simp) ?_
            refine AllReadyH.cons rfl (fun K hK => ?_) ?_
            · simp only [List.getElem_toArray, List.getElem_cons_zero, List.getElem_cons_succ]
              rw [if_pos (by rfl)]
              refine wp_appC _ _ (by rfl) (by rfl) (by rfl) (by rfl) a649.out (srcC_one u649.out rfl rfl) (by simp) (by simp) zl649 (by omega) ?_
              intro v7 w7 hown7 hg7
              have b671 := Lib.hid (b649.out.grown hg7 b649.out.size (fun j e => Nat.le_trans hW5614 (a649.out.lt j e).1))
              have a671 := Lib.hid hown7
              clear hown7 hg7
              have w7u0 := kc b671.out u0
              have w7u1 := kc b671.out u1
              refine hK.out _ _ ⟨w7u0, w7u1⟩ (fun hHeld => ?_)
              clear hK K
              try simp only [Act.put, List.getElem_toArray, List.getElem_cons_zero, List.getElem_cons_succ, List.setIfInBounds_toArray, List.set_cons_zero, List.set_cons_succ]
              clear hHeld
              have ho8 := a671.out
              rw [Nat.zero_add, List.nil_append] at ho8
              obtain ⟨A7, cap7, e7⟩ := row_shape ho8
              subst e7
              have HPx := Lib.hid (show PxP w7 1 (fun _ => unitCon (1 + (k : Int))) [.slice (some ⟨H, 0, none⟩) 1 1, .int .i64 1] from fun i hi => by
                obtain rfl : i = 0 := by omega
                exact ⟨_, _, rfl, rfl, HUn.out.later b671.out⟩)
              have HR7 := Lib.hid (rdp_own ho8 ((HQA.out.later b671.out).cat HPx.out HPA.out.len))
              clear ho8 a671 HPx
              refine wpAnyH_ready (rs := [7]) (by kernel_rfl) (by simp) ?_
              refine AllReadyH.cons rfl (fun K hK => ?_) AllReadyH.nil
              simp only [List.getElem_toArray, List.getElem_cons_zero, List.getElem_cons_succ]
              go_simp
              go_at_call 15
              refine (implProp_any _ _ _ _ _ _ (catP ka p (fun _ => unitCon (1 + (k : Int)))) v _ (by omega) hkvB HNc.out HR7.out (HHv.out.later b671.out) (fun _ => HV1.out)).mono ?_
              rintro e w8 ⟨n3, v3, r3, Ar, capr, Tr, rfl, hfr, hb, c1, c0'⟩
              have HB8 := Lib.hid (bl_trans (bl_trans HBW.out b671.out) hb)
              have hu0 := kc hb w7u0
              have hu1 := kc hb w7u1
              have FR8 := Lib.hid hfr.rdAt
              rw [HPc.out] at c1 ⊢
              obtain ⟨e12, hrg3, hrun3⟩ := c1 rfl
              subst e12
              have hx2 := (hrun3.ends (fun j hj => HOc.out j hj)).2
              have HX2 := Lib.hid hx2
              have HG3 := Lib.hid hrg3
              clear hb hfr c1 c0' hx2 hrg3 hrun3
              refine hK.out _ _ ⟨hu0, hu1⟩ (fun hHeld => ?_)
              clear hK K
              try simp only [Act.put, List.getElem_toArray, List.getElem_cons_zero, List.getElem_cons_succ, List.setIfInBounds_toArray, List.set_cons_zero, List.set_cons_succ]
              refine wpAnyH_take (i := 8) (v := .tuple #[.slice Ar 12 capr, .int .i64 r3, .bool true]) rfl (by kernel_rfl) (by kernel_rfl) (by kernel_rfl) (fun _ _ _ h => h) (Or.inl ⟨by rfl, ?_⟩) (by assumption) ?_
              · intro w hSw; simp only [List.getElem_toArray, List.getElem_cons_zero, List.getElem_cons_succ]; go_simp
              try simp only [Act.put, List.getElem_toArray, List.getElem_cons_zero, List.getElem_cons_succ, List.setIfInBounds_toArray, List.set_cons_zero, List.set_cons_succ]
              refine wpAnyH_take (i := 9) (v := .slice Ar 12 capr) rfl (by kernel_rfl) (by kernel_rfl) (by kernel_rfl) (fun _ _ _ h => h) (Or.inl ⟨by rfl, ?_⟩) (by assumption) ?_
              · intro w hSw; simp only [List.getElem_toArray, List.getElem_cons_zero, List.getElem_cons_succ]; go_simp
              try simp only [Act.put, List.getElem_toArray, List.getElem_cons_zero, List.getElem_cons_succ, List.setIfInBounds_toArray, List.set_cons_zero, List.set_cons_succ]
              refine wpAnyH_take (i := 10) (v := .int .i64 r3) rfl (by kernel_rfl) (by kernel_rfl) (by kernel_rfl) (fun _ _ _ h => h) (Or.inl ⟨by rfl, ?_⟩) (by assumption) ?_
              · intro w hSw; simp only [List.getElem_toArray, List.getElem_cons_zero, List.getElem_cons_succ]; go_simp
              try simp only [Act.put, List.getElem_toArray, List.getElem_cons_zero, List.getElem_cons_succ, List.setIfInBounds_toArray, List.set_cons_zero, List.set_cons_succ]
              refine wpAnyH_take (i := 11) (v := .bool true) rfl (by kernel_rfl) (by kernel_rfl) (by kernel_rfl) (fun _ _ _ h => h) (Or.inl ⟨by rfl, ?_⟩) (by assumption) ?_
              · intro w hSw; simp only [List.getElem_toArray, List.getElem_cons_zero, List.getElem_cons_succ]; go_simp
              try simp only [Act.put, List.getElem_toArray, List.getElem_cons_zero, List.getElem_cons_succ, List.setIfInBounds_toArray, List.set_cons_zero, List.set_cons_succ]
              refine wpAnyH_take (i := 12) (v := .slice Ar 12 capr) rfl (by kernel_rfl) (by kernel_rfl) (by kernel_rfl) (fun _ _ _ h => h) (Or.inl ⟨by rfl, ?_⟩) (by assumption) ?_
              · intro w hSw; simp only [List.getElem_toArray, List.getElem_cons_zero, List.getElem_cons_succ]; go_simp
              try simp only [Act.put, List.getElem_toArray, List.getElem_cons_zero, List.getElem_cons_succ, List.setIfInBounds_toArray, List.set_cons_zero, List.set_cons_succ]
              refine wpAnyH_take (i := 13) (v := .int .i64 r3) rfl (by kernel_rfl) (by kernel_rfl) (by kernel_rfl) (fun _ _ _ h => h) (Or.inl ⟨by rfl, ?_⟩) (by assumption) ?_
              · intro w hSw; simp only [List.getElem_toArray, List.getElem_cons_zero, List.getElem_cons_succ]; go_simp
              try simp only [Act.put, List.getElem_toArray, List.getElem_cons_zero, List.getElem_cons_succ, List.setIfInBounds_toArray, List.set_cons_zero, List.set_cons_succ]
              refine wpAnyH_take (i := 14) (v := .bool true) rfl (by kernel_rfl) (by kernel_rfl) (by kernel_rfl) (fun _ _ _ h => h) (Or.inl ⟨by rfl, ?_⟩) (by assumption) ?_
              · intro w hSw; simp only [List.getElem_toArray, List.getElem_cons_zero, List.getElem_cons_succ]; go_simp
              try simp only [Act.put, List.getElem_toArray, List.getElem_cons_zero, List.getElem_cons_succ, List.setIfInBounds_toArray, List.set_cons_zero, List.set_cons_succ]
              refine wpAnyH_done (by kernel_rfl) ?_ _
              refine NoPanic.normal ?_
              clear hHeld hu0 hu1
              by_cases hr3 : 0 ≤ r3
              · go_wp2
                go_ret
                exact ⟨rfl, HB8.out⟩
              · have hfx : fixC (unitCon (1 + (k : Int))) v3 := by
                  rcases HX2.out with ⟨_, h⟩ | ⟨j, _, h, _⟩
                  · have := h (ka + 0) (by omega); rwa [catP_hi] at this
                  · omega
                have hst := unit_fix HZ.out HG3.out hfx
                obtain ⟨b, off, rfl, hbl, hc⟩ := FR8.out (by omega)
                have c0 := hc k hk12
                have hvk : v3 k = 1 := by
                  unfold stV at hst
                  rw [if_pos (by omega), show ((1 + (k : Int)) - 1).toNat = k by omega] at hst
                  exact hst
                rw [hvk] at c0
                clear hc hvk hst hfx
                have hkI : (k : Int) < 12 := by omega
                have hk0 : (0 : Int) ≤ (k : Int) := by omega
                have hzm : 0 < 1 + (k : Int) := by omega
                have hw2 : IntKind.i64.wrap (1 + (k : Int) - 1) = (k : Int) := by rw [IntWalk.i64_in _ (by omega)]; omega
                clear HZ HPc HOc HNc HUn HX2
                go_wp2_with fail
                go_ret
                exact ⟨rfl, HB8.out⟩
            exact AllReadyH.nil
          exact AllReadyH.nil
        refine AllReadyH.cons rfl (fun K hK => ?_) ?_
        · simp only [List.getElem_toArray, List.getElem_cons_zero, List.getElem_cons_succ]
          go_simp
          have nb766 : Below X1.heap.size X1 (World.alloc X1 (.cells #[.slice (some ⟨H, 0, none⟩) 1 1, .int .i64 1] 42)) := bl_alloc (Below.refl _ _) _
          have hn766 : (World.alloc X1 (.cells #[.slice (some ⟨H, 0, none⟩) 1 1, .int .i64 1] 42)).heap[X1.heap.size]? = some _ := heap_alloc_new X1 (.cells #[.slice (some ⟨H, 0, none⟩) 1 1, .int .i64 1] 42)
          obtain ⟨X3, hX3⟩ : ∃ X3, (World.alloc X1 (.cells #[.slice (some ⟨H, 0, none⟩) 1 1, .int .i64 1] 42)) = X3 := ⟨_, rfl⟩
          rw [hX3] at nb766 hn766 ⊢
          clear hX3
          obtain ⟨Z766, hZ766⟩ : ∃ Z, X1.heap.size = Z := ⟨_, rfl⟩
          have b766 := Lib.hid (bl_trans b614.out nb766)
          have hE766 : Z614 < X1.heap.size := (e614.out.lt _ rfl).2
          have e766 := Lib.hid (row_below' e614.out nb766)
          have u766 := Lib.hid hn766
          rw [hZ766] at u766 hE766 ⊢
          have hZl766 : Z766 = X1.heap.size := hZ766.symm
          have hW5766 : W5.heap.size ≤ Z766 := by rw [← hZ766]; exact b614.out.size
          clear nb766 hn766 hZ766 hZl766
          refine hK.out _ _ ⟨kc b766.out u0, kc b766.out u1⟩ (fun hHeld => ?_)
          clear hK K
          try simp only [Act.put, List.getElem_toArray, List.getElem_cons_zero, List.getElem_cons_succ, List.setIfInBounds_toArray, List.set_cons_zero, List.set_cons_succ]
          clear hHeld
          refine wpAnyH_ready (rs := [2]) (by kernel_rfl) (by simp) ?_
          refine AllReadyH.cons rfl (fun K hK => ?_) ?_
          · simp only [List.getElem_toArray, List.getElem_cons_zero, List.getElem_cons_succ]
            rw [if_pos (by rfl)]
            refine wp_appC _ _ (by rfl) (by rfl) (by rfl) (by rfl) e766.out (HPA.out.bel b766.out).src HNa1.out.2 HNa1.out.1 (Nat.le_of_lt (e766.out.lt _ rfl).2) (by omega) ?_
            intro v6 w6 hown6 hg6
            have b788 := Lib.hid (b766.out.grown hg6 b766.out.size (by intro j e; cases e; exact hW5614))
            have a788 := Lib.hid hown6
            have zl788 := Nat.le_trans (Nat.le_of_lt (e766.out.lt _ rfl).2) hg6.size
            have u788 := Lib.hid (heap_grown hg6 (by show some _ ≠ some _; have := hE766; simp; omega) u766.out)
            clear hown6 hg6
            refine hK.out _ _ ⟨kc b788.out u0, kc b788.out u1⟩ (fun hHeld => ?_)
            clear hK K
            try simp only [Act.put, List.getElem_toArray, List.getElem_cons_zero, List.getElem_cons_succ, List.setIfInBounds_toArray, List.set_cons_zero, List.set_cons_succ]
            clear hHeld
            refine wpAnyH_ready (rs := [5]) (by kernel_rfl) (by simp) ?_
            refine AllReadyH.cons rfl (fun K hK => ?_) ?_
            · simp only [List.getElem_toArray, List.getElem_cons_zero, List.getElem_cons_succ]
              rw [if_pos (by rfl)]
              refine wp_appC _ _ (by rfl) (by rfl) (by rfl) (by rfl) a788.out (srcC_one u788.out rfl rfl) (by simp) (by simp) zl788 (by omega) ?_
              intro v7 w7 hown7 hg7
              have b803 := Lib.hid (b788.out.grown hg7 b788.out.size (fun j e => Nat.le_trans hW5614 (a788.out.lt j e).1))
              have a803 := Lib.hid hown7
              clear hown7 hg7
              have w7u0 := kc b803.out u0
              have w7u1 := kc b803.out u1
              refine hK.out _ _ ⟨w7u0, w7u1⟩ (fun hHeld => ?_)
              clear hK K
              try simp only [Act.put, List.getElem_toArray, List.getElem_cons_zero, List.getElem_cons_succ, List.setIfInBounds_toArray, List.set_cons_zero, List.set_cons_succ]
              clear hHeld
              have ho8 := a803.out
              rw [Nat.zero_add, List.nil_append] at ho8
              obtain ⟨A7, cap7, e7⟩ := row_shape ho8
              subst e7
              have HPx := Lib.hid (show PxP w7 1 (fun _ => unitCon (1 + (k : Int))) [.slice (some ⟨H, 0, none⟩) 1 1, .int .i64 1] from fun i hi => by
                obtain rfl : i = 0 := by omega
                exact ⟨_, _, rfl, rfl, HUn.out.later b803.out⟩)
              have HR7 := Lib.hid (rdp_own ho8 ((HQA.out.later b803.out).cat HPx.out HPA.out.len))
              clear ho8 a803 HPx
              refine wpAnyH_ready (rs := [7]) (by kernel_rfl) (by simp) ?_
              refine AllReadyH.cons rfl (fun K hK => ?_) AllReadyH.nil
              simp only [List.getElem_toArray, List.getElem_cons_zero, List.getElem_cons_succ]
              go_simp
              go_at_call 15
              refine (implProp_any _ _ _ _ _ _ (catP ka p (fun _ => unitCon (1 + (k : Int)))) v _ (by omega) hkvB HNc.out HR7.out (HHv.out.later b803.out) (fun _ => HV1.out)).mono ?_
              rintro e w8 ⟨n3, v3, r3, Ar, capr, Tr, rfl, hfr, hb, c1, c0'⟩
              have HB8 := Lib.hid (bl_trans (bl_trans HBW.out b803.out) hb)
              have hu0 := kc hb w7u0
              have hu1 := kc hb w7u1
              have FR8 := Lib.hid hfr.rdAt
              rw [HPc.out] at c1 ⊢
              obtain ⟨e12, hrg3, hrun3⟩ := c1 rfl
              subst e12
              have hx2 := (hrun3.ends (fun j hj => HOc.out j hj)).2
              have HX2 := Lib.hid hx2
              have HG3 := Lib.hid hrg3
              clear hb hfr c1 c0' hx2 hrg3 hrun3
              refine hK.out _ _ ⟨hu0, hu1⟩ (fun hHeld => ?_)
              clear hK K
              try simp only [Act.put, List.getElem_toArray, List.getElem_cons_zero, List.getElem_cons_succ, List.setIfInBounds_toArray, List.set_cons_zero, List.set_cons_succ]
              refine wpAnyH_take (i := 8) (v := .tuple #[.slice Ar 12 capr, .int .i64 r3, .bool true]) rfl (by kernel_rfl) (by kernel_rfl) (by kernel_rfl) (fun _ _ _ h => h) (Or.inl ⟨by rfl, ?_⟩) (by assumption) ?_
              · intro w hSw; simp only [List.getElem_toArray, List.getElem_cons_zero, List.getElem_cons_succ]; go_simp
              try simp only [Act.put, List.getElem_toArray, List.getElem_cons_zero, List.getElem_cons_succ, List.setIfInBounds_toArray, List.set_cons_zero, List.set_cons_succ]
              refine wpAnyH_take (i := 9) (v := .slice Ar 12 capr) rfl (by kernel_rfl) (by kernel_rfl) (by kernel_rfl) (fun _ _ _ h => h) (Or.inl ⟨by rfl, ?_⟩) (by assumption) ?_
              · intro w hSw; simp only [List.getElem_toArray, List.getElem_cons_zero, List.getElem_cons_succ]; go_simp
              try simp only [Act.put, List.getElem_toArray, List.getElem_cons_zero, List.getElem_cons_succ, List.setIfInBounds_toArray, List.set_cons_zero, List.set_cons_succ]
              refine wpAnyH_take (i := 10) (v := .int .i64 r3) rfl (by kernel_rfl) (by kernel_rfl) (by kernel_rfl) (fun _ _ _ h => h) (Or.inl ⟨by rfl, ?_⟩) (by assumption) ?_
              · intro w hSw; simp only [List.getElem_toArray, List.getElem_cons_zero, List.getElem_cons_succ]; go_simp
              try simp only [Act.put, List.getElem_toArray, List.getElem_cons_zero, List.getElem_cons_succ, List.setIfInBounds_toArray, List.set_cons_zero, List.set_cons_succ]
              refine wpAnyH_take (i := 11) (v := .bool true) rfl (by kernel_rfl) (by kernel_rfl) (by kernel_rfl) (fun _ _ _ h => h) (Or.inl ⟨by rfl, ?_⟩) (by assumption) ?_
              · intro w hSw; simp only [List.getElem_toArray, List.getElem_cons_zero, List.getElem_cons_succ]; go_simp
              try simp only [Act.put, List.getElem_toArray, List.getElem_cons_zero, List.getElem_cons_succ, List.setIfInBounds_toArray, List.set_cons_zero, List.set_cons_succ]
              refine wpAnyH_take (i := 12) (v := .slice Ar 12 capr) rfl (by kernel_rfl) (by kernel_rfl) (by kernel_rfl) (fun _ _ _ h => h) (Or.inl ⟨by rfl, ?_⟩) (by assumption) ?_
              · intro w hSw; simp only [List.getElem_toArray, List.getElem_cons_zero, List.getElem_cons_succ]; go_simp
              try simp only [Act.put, List.getElem_toArray, List.getElem_cons_zero, List.getElem_cons_succ, List.setIfInBounds_toArray, List.set_cons_zero, List.set_cons_succ]
              refine wpAnyH_take (i := 13) (v := .int .i64 r3) rfl (by kernel_rfl) (by kernel_rfl) (by kernel_rfl) (fun _ _ _ h => h) (Or.inl ⟨by rfl, ?_⟩) (by assumption) ?_
              · intro w hSw; simp only [List.getElem_toArray, List.getElem_cons_zero, List.getElem_cons_succ]; go_simp
              try simp only [Act.put, List.getElem_toArray, List.getElem_cons_zero, List.getElem_cons_succ, List.setIfInBounds_toArray, List.set_cons_zero, List.set_cons_succ]
              refine wpAnyH_take (i := 14) (v := .bool true) rfl (by kernel_rfl) (by kernel_rfl) (by kernel_rfl) (fun _ _ _ h => h) (Or.inl ⟨by rfl, ?_⟩) (by assumption) ?_
              · intro w hSw; simp only [List.getElem_toArray, List.getElem_cons_zero, List.getElem_cons_succ]; go_simp
              try simp only [Act.put, List.getElem_toArray, List.getElem_cons_zero, List.getElem_cons_succ, List.setIfInBounds_toArray, List.set_cons_zero, List.set_cons_succ]
              refine wpAnyH_done (by kernel_rfl) ?_ _
              refine NoPanic.normal ?_
              clear hHeld hu0 hu1
              by_cases hr3 : 0 ≤ r3
              · go_wp2
                go_ret
                exact ⟨rfl, HB8.out⟩
              · have hfx : fixC (unitCon (1 + (k : Int))) v3 := by
                  rcases HX2.out with ⟨_, h⟩ | ⟨j, _, h, _⟩
                  · have := h (ka + 0) (by omega); rwa [catP_hi] at this
                  · omega
                have hst := unit_fix HZ.out HG3.out hfx
                obtain ⟨b, off, rfl, hbl, hc⟩ := FR8.out (by omega)
                have c0 := hc k hk12
                have hvk : v3 k = 1 := by
                  unfold stV at hst
                  rw [if_pos (by omega), show ((1 + (k : Int)) - 1).toNat = k by omega] at hst
                  exact hst
                rw [hvk] at c0
                clear hc hvk hst hfx
                have hkI : (k : Int) < 12 := by omega
                have hk0 : (0 : Int) ≤ (k : Int) := by omega
                have hzm : 0 < 1 + (k : Int) := by omega
                have hw2 : IntKind.i64.wrap (1 + (k : Int) - 1) = (k : Int) := by rw [IntWalk.i64_in _ (by omega)]; omega
                clear HZ HPc HOc HNc HUn HX2
                go_wp2_with fail
                go_ret
                exact ⟨rfl, HB8.out⟩
            exact AllReadyH.nil
          exact AllReadyH.nil
        exact AllReadyH.nil
      refine AllReadyH.cons rfl (fun K hK => ?_) ?_
      · simp only [List.getElem_toArray, List.getElem_cons_zero, List.getElem_cons_succ]
        go_simp
        have nb899 : Below W5.heap.size W5 (World.alloc W5 (.cells #[.slice (some ⟨H, 0, none⟩) 1 1, .int .i64 1] 42)).drew := (bl_alloc (Below.refl _ _) _).drew
        have hn899 : (World.alloc W5 (.cells #[.slice (some ⟨H, 0, none⟩) 1 1, .int .i64 1] 42)).drew.heap[W5.heap.size]? = some _ := heap_alloc_new W5 (.cells #[.slice (some ⟨H, 0, none⟩) 1 1, .int .i64 1] 42)
        obtain ⟨X4, hX4⟩ : ∃ X4, (World.alloc W5 (.cells #[.slice (some ⟨H, 0, none⟩) 1 1, .int .i64 1] 42)).drew = X4 := ⟨_, rfl⟩
        rw [hX4] at nb899 hn899 ⊢
        clear hX4
        obtain ⟨Z899, hZ899⟩ : ∃ Z, W5.heap.size = Z := ⟨_, rfl⟩
        have b899 := Lib.hid nb899
        have u899 := Lib.hid hn899
        rw [hZ899] at u899 ⊢
        have hZl899 : Z899 = W5.heap.size := hZ899.symm
        have hW5899 : W5.heap.size ≤ Z899 := by rw [← hZ899]; exact Nat.le_refl _
        clear nb899 hn899 hZ899 hZl899
        refine hK.out _ _ ⟨kc b899.out u0, kc b899.out u1⟩ (fun hHeld => ?_)
        clear hK K
        try simp only [Act.put, List.getElem_toArray, List.getElem_cons_zero, List.getElem_cons_succ, List.setIfInBounds_toArray, List.set_cons_zero, List.set_cons_succ]
        clear hHeld
        refine wpAnyH_ready (rs := [0]) (by kernel_rfl) (by simp) ?_
        refine AllReadyH.cons rfl (fun K hK => ?_) ?_
        · simp only [List.getElem_toArray, List.getElem_cons_zero, List.getElem_cons_succ]
          go_simp
          have nb919 : Below X4.heap.size X4 (World.alloc X4 (.cells #[] 42)) := bl_alloc (Below.refl _ _) _
          have hn919 : (World.alloc X4 (.cells #[] 42)).heap[X4.heap.size]? = some _ := heap_alloc_new X4 (.cells #[] 42)
          have ro919 : (World.alloc X4 (.cells #[] 42)).ownsRow X4.heap.size 42 2 (.slice (some ⟨X4.heap.size, 0, none⟩) 0 0) 0 [] := (px_lit X4 0 0).own
          obtain ⟨X5, hX5⟩ : ∃ X5, (World.alloc X4 (.cells #[] 42)) = X5 := ⟨_, rfl⟩
          rw [hX5] at nb919 hn919 ro919 ⊢
          clear hX5
          obtain ⟨Z919, hZ919⟩ : ∃ Z, X4.heap.size = Z := ⟨_, rfl⟩
          have b919 := Lib.hid (bl_trans b899.out nb919)
          have hU919 : Z899 < X4.heap.size := (show _ from by have := u899.out; rcases Nat.lt_or_ge Z899 X4.heap.size with h | h; exact h; rw [Array.getElem?_eq_none h] at this; cases this)
          have u919 := Lib.hid (heap_keep nb919 u899.out)
          have e919 := Lib.hid ro919
          rw [hZ919] at e919 hU919 ⊢
          have hZl919 : Z919 = X4.heap.size := hZ919.symm
          have hW5919 : W5.heap.size ≤ Z919 := by rw [← hZ919]; exact b899.out.size
          clear nb919 hn919 hZ919 hZl919 ro919
          refine hK.out _ _ ⟨kc b919.out u0, kc b919.out u1⟩ (fun hHeld => ?_)
          clear hK K
          try simp only [Act.put, List.getElem_toArray, List.getElem_cons_zero, List.getElem_cons_succ, List.setIfInBounds_toArray, List.set_cons_zero, List.set_cons_succ]
          clear hHeld
          refine wpAnyH_ready (rs := [2]) (by kernel_rfl) (by simp) ?_
          refine AllReadyH.cons rfl (fun K hK => ?_) ?_
          · simp only [List.getElem_toArray, List.getElem_cons_zero, List.getElem_cons_succ]
            rw [if_pos (by rfl)]
            refine wp_appC _ _ (by rfl) (by rfl) (by rfl) (by rfl) e919.out (HPA.out.bel b919.out).src HNa1.out.2 HNa1.out.1 (Nat.le_of_lt (e919.out.lt _ rfl).2) (by omega) ?_
            intro v6 w6 hown6 hg6
            have b942 := Lib.hid (b919.out.grown hg6 b919.out.size (by intro j e; cases e; exact hW5919))
            have a942 := Lib.hid hown6
            have zl942 := Nat.le_trans (Nat.le_of_lt (e919.out.lt _ rfl).2) hg6.size
            have u942 := Lib.hid (heap_grown hg6 (by show some _ ≠ some _; have := hU919; simp; omega) u919.out)
            clear hown6 hg6
            refine hK.out _ _ ⟨kc b942.out u0, kc b942.out u1⟩ (fun hHeld => ?_)
            clear hK K
            try simp only [Act.put, List.getElem_toArray, List.getElem_cons_zero, List.getElem_cons_succ, List.setIfInBounds_toArray, List.set_cons_zero, List.set_cons_succ]
            clear hHeld
            refine wpAnyH_ready (rs := [5]) (by kernel_rfl) (by simp) ?_
            refine AllReadyH.cons rfl (fun K hK => ?_) ?_
            · simp only [List.getElem_toArray, List.getElem_cons_zero, List.getElem_cons_succ]
              rw [if_pos (by rfl)]
              refine wp_appC _ _ (by rfl) (by rfl) (by rfl) (by rfl) a942.out (srcC_one u942.out rfl rfl) (by simp) (by simp) zl942 (by omega) ?_
              intro v7 w7 hown7 hg7
              have b957 := Lib.hid (b942.out.grown hg7 b942.out.size (fun j e => Nat.le_trans hW5919 (a942.out.lt j e).1))
              have a957 := Lib.hid hown7
              clear hown7 hg7
              have w7u0 := kc b957.out u0
              have w7u1 := kc b957.out u1
              refine hK.out _ _ ⟨w7u0, w7u1⟩ (fun hHeld => ?_)
              clear hK K
              try simp only [Act.put, List.getElem_toArray, List.getElem_cons_zero, List.getElem_cons_succ, List.setIfInBounds_toArray, List.set_cons_zero, List.set_cons_succ]
              clear hHeld
              have ho8 := a957.out
              rw [Nat.zero_add, List.nil_append] at ho8
              obtain ⟨A7, cap7, e7⟩ := row_shape ho8
              subst e7
              have HPx := Lib.hid (show PxP w7 1 (fun _ => unitCon (1 + (k : Int))) [.slice (some ⟨H, 0, none⟩) 1 1, .int .i64 1] from fun i hi => by
                obtain rfl : i = 0 := by omega
                exact ⟨_, _, rfl, rfl, HUn.out.later b957.out⟩)
              have HR7 := Lib.hid (rdp_own ho8 ((HQA.out.later b957.out).cat HPx.out HPA.out.len))
              clear ho8 a957 HPx
              refine wpAnyH_ready (rs := [7]) (by kernel_rfl) (by simp) ?_
              refine AllReadyH.cons rfl (fun K hK => ?_) AllReadyH.nil
              simp only [List.getElem_toArray, List.getElem_cons_zero, List.getElem_cons_succ]
              go_simp
              go_at_call 15
              refine (implProp_any _ _ _ _ _ _ (catP ka p (fun _ => unitCon (1 + (k : Int)))) v _ (by omega) hkvB HNc.out HR7.out (HHv.out.later b957.out) (fun _ => HV1.out)).mono ?_
              rintro e w8 ⟨n3, v3, r3, Ar, capr, Tr, rfl, hfr, hb, c1, c0'⟩
              have HB8 := Lib.hid (bl_trans (bl_trans HBW.out b957.out) hb)
              have hu0 := kc hb w7u0
              have hu1 := kc hb w7u1
              have FR8 := Lib.hid hfr.rdAt
              rw [HPc.out] at c1 ⊢
              obtain ⟨e12, hrg3, hrun3⟩ := c1 rfl
              subst e12
              have hx2 := (hrun3.ends (fun j hj => HOc.out j hj)).2
              have HX2 := Lib.hid hx2
              have HG3 := Lib.hid hrg3
              clear hb hfr c1 c0' hx2 hrg3 hrun3
              refine hK.out _ _ ⟨hu0, hu1⟩ (fun hHeld => ?_)
              clear hK K
              try simp only [Act.put, List.getElem_toArray, List.getElem_cons_zero, List.getElem_cons_succ, List.setIfInBounds_toArray, List.set_cons_zero, List.set_cons_succ]
              refine wpAnyH_take (i := 8) (v := .tuple #[.slice Ar 12 capr, .int .i64 r3, .bool true]) rfl (by kernel_rfl) (by kernel_rfl) (by kernel_rfl) (fun _ _ _ h => h) (Or.inl ⟨by rfl, ?_⟩) (by assumption) ?_
              · intro w hSw; simp only [List.getElem_toArray, List.getElem_cons_zero, List.getElem_cons_succ]; go_simp
              try simp only [Act.put, List.getElem_toArray, List.getElem_cons_zero, List.getElem_cons_succ, List.setIfInBounds_toArray, List.set_cons_zero, List.set_cons_succ]
              refine wpAnyH_take (i := 9) (v := .slice Ar 12 capr) rfl (by kernel_rfl) (by kernel_rfl) (by kernel_rfl) (fun _ _ _ h => h) (Or.inl ⟨by rfl, ?_⟩) (by assumption) ?_
              · intro w hSw; simp only [List.getElem_toArray, List.getElem_cons_zero, List.getElem_cons_succ]; go_simp
              try simp only [Act.put, List.getElem_toArray, List.getElem_cons_zero, List.getElem_cons_succ, List.setIfInBounds_toArray, List.set_cons_zero, List.set_cons_succ]
              refine wpAnyH_take (i := 10) (v := .int .i64 r3) rfl (by kernel_rfl) (by kernel_rfl) (by kernel_rfl) (fun _ _ _ h => h) (Or.inl ⟨by rfl, ?_⟩) (by assumption) ?_
              · intro w hSw; simp only [List.getElem_toArray, List.getElem_cons_zero, List.getElem_cons_succ]; go_simp
              try simp only [Act.put, List.getElem_toArray, List.getElem_cons_zero, List.getElem_cons_succ, List.setIfInBounds_toArray, List.set_cons_zero, List.set_cons_succ]
              refine wpAnyH_take (i := 11) (v := .bool true) rfl (by kernel_rfl) (by kernel_rfl) (by kernel_rfl) (fun _ _ _ h => h) (Or.inl ⟨by rfl, ?_⟩) (by assumption) ?_
              · intro w hSw; simp only [List.getElem_toArray, List.getElem_cons_zero, List.getElem_cons_succ]; go_simp
              try simp only [Act.put, List.getElem_toArray, List.getElem_cons_zero, List.getElem_cons_succ, List.setIfInBounds_toArray, List.set_cons_zero, List.set_cons_succ]
              refine wpAnyH_take (i := 12) (v := .slice Ar 12 capr) rfl (by kernel_rfl) (by kernel_rfl) (by kernel_rfl) (fun _ _ _ h => h) (Or.inl ⟨by rfl, ?_⟩) (by assumption) ?_
              · intro w hSw; simp only [List.getElem_toArray, List.getElem_cons_zero, List.getElem_cons_succ]; go_simp
              try simp only [Act.put, List.getElem_toArray, List.getElem_cons_zero, List.getElem_cons_succ, List.setIfInBounds_toArray, List.set_cons_zero, List.set_cons_succ]
              refine wpAnyH_take (i := 13) (v := .int .i64 r3) rfl (by kernel_rfl) (by kernel_rfl) (by kernel_rfl) (fun _ _ _ h => h) (Or.inl ⟨by rfl, ?_⟩) (by assumption) ?_
              · intro w hSw; simp only [List.getElem_toArray, List.getElem_cons_zero, List.getElem_cons_succ]; go_simp
              try simp only [Act.put, List.getElem_toArray, List.getElem_cons_zero, List.getElem_cons_succ, List.setIfInBounds_toArray, List.set_cons_zero, List.set_cons_succ]
              refine wpAnyH_take (i := 14) (v := .bool true) rfl (by kernel_rfl) (by kernel_rfl) (by kernel_rfl) (fun _ _ _ h => h) (Or.inl ⟨by rfl, ?_⟩) (by assumption) ?_
              · intro w hSw; simp only [List.getElem_toArray, List.getElem_cons_zero, List.getElem_cons_succ]; go_simp
              try simp only [Act.put, List.getElem_toArray, List.getElem_cons_zero, List.getElem_cons_succ, List.setIfInBounds_toArray, List.set_cons_zero, List.set_cons_succ]
              refine wpAnyH_done (by kernel_rfl) ?_ _
              refine NoPanic.normal ?_
              clear hHeld hu0 hu1
              by_cases hr3 : 0 ≤ r3
              · go_wp2
                go_ret
                exact ⟨rfl, HB8.out⟩
              · have hfx : fixC (unitCon (1 + (k : Int))) v3 := by
                  rcases HX2.out with ⟨_, h⟩ | ⟨j, _, h, _⟩
                  · have := h (ka + 0) (by omega); rwa [catP_hi] at this
                  · omega
                have hst := unit_fix HZ.out HG3.out hfx
                obtain ⟨b, off, rfl, hbl, hc⟩ := FR8.out (by omega)
                have c0 := hc k hk12
                have hvk : v3 k = 1 := by
                  unfold stV at hst
                  rw [if_pos (by omega), show ((1 + (k : Int)) - 1).toNat = k by omega] at hst
                  exact hst
                rw [hvk] at c0
                clear hc hvk hst hfx
                have hkI : (k : Int) < 12 := by omega
                have hk0 : (0 : Int) ≤ (k : Int) := by omega
                have hzm : 0 < 1 + (k : Int) := by omega
                have hw2 : IntKind.i64.wrap (1 + (k : Int) - 1) = (k : Int) := by rw [IntWalk.i64_in _ (by omega)]; omega
                clear HZ HPc HOc HNc HUn HX2
                go_wp2_with fail
                go_ret
                exact ⟨rfl, HB8.out⟩
            exact AllReadyH.nil
          exact AllReadyH.nil
        exact AllReadyH.nil
      exact AllReadyH.nil

set_option linter.unusedVariables false in
set_option maxRecDepth 100000 in
set_option maxHeartbeats 1600000 in
theorem lawFnPropagateUnit_walk (A0 : Option Addr) (n0 cap0 : Nat) (y0 : Nat → Int) (A1 : Option Addr) (n1 cap1 : Nat) (y1 : Nat → Int) (w : World) (hm0 : n0 ≤ maxLen) (hc0 : n0 ≤ cap0) (hr0 : RdY w w.heap.size A0 n0 y0) (hm1 : n1 ≤ maxLen) (hc1 : n1 ≤ cap1) (hr1 : RdY w w.heap.size A1 n1 y1) :
    Calls Try.prog 7 #[.slice A0 n0 cap0, .slice A1 n1 cap1] w fun e w' => e = .returned (.bool true) ∧ Below w.heap.size w w' := by
  by_cases h0 : n0 ≤ 1048576
  · by_cases h1 : n1 ≤ 1048576
    · exact lawFnPropagateUnit_ok A0 n0 cap0 y0 A1 n1 cap1 y1 w h0 hc0 hr0 h1 hc1 hr1
    · unfold maxLen at hm1
      have hi0 : ¬ (1048576 : Int) < (n0 : Int) := by omega
      have hi1 : (1048576 : Int) < (n1 : Int) := by omega
      go_enter Try.func7, Try.ntmps7
      go_wp2
      go_ret
      exact ⟨rfl, Below.refl _ _⟩
  · unfold maxLen at hm0
    have hi0 : (1048576 : Int) < (n0 : Int) := by omega
    go_enter Try.func7, Try.ntmps7
    go_wp2
    go_ret
    exact ⟨rfl, Below.refl _ _⟩
end Go.Proofs.Ytooknldfkcdneaa
