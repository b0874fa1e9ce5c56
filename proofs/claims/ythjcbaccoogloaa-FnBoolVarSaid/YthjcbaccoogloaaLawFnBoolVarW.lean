/- The walk of the law FnBoolVar (no claim of its own). Conditions: as each theorem states. -/
import Derived.Test.YthjcbaccoogloaaDmlK
import Derived.Test.YthjcbaccoogloaaBviB
namespace Go.Proofs.Ythjcbaccoogloaa
open Go.ChangeShapes Go.WideShapes Go.ChangeAt Go.RowKit

theorem tS_up {x : Nat → Int} {k n : Nat} (hk : k ≤ n) (h : prE (fun i => betB 0 3 (x i)) n = true) : tS x k ≤ tS x n := by
  induction n with
  | zero =>
    obtain rfl : k = 0 := by omega
    exact Int.le_refl _
  | succ n ih =>
    by_cases e : k = n + 1
    · subst e; exact Int.le_refl _
    · have h1 := ih (by omega) (prE_le h (by omega))
      have h2 := prE_at h (show n < n + 1 by omega)
      simp [betB] at h2
      show _ ≤ tS x n + x n + 1
      omega
/-- What a number of a variable says. -/
theorem bv_parts {s : Lst} {n : Nat} {q : Nat → Rul} {c v : Int} (h : bvI s n q c v ≠ 0) : ∃ k : Nat, c = (k : Int) ∧ k < s.n ∧ 0 ≤ v ∧ v ≤ s.x k ∧ modB s n q = true ∧ bvI s n q c v = 1 + v + tS s.x k := by
  cases hm : modB s n q with
  | false => exact absurd (bv_bad hm) h
  | true =>
    cases hh : hvB s c v with
    | false => exact absurd (bv_no hh) h
    | true =>
      have hy := bv_yes hm hh
      simp [hvB] at hh
      obtain ⟨⟨h1, h2⟩, h3, h4⟩ := hh
      exact ⟨c.toNat, by omega, by omega, h3, h4, rfl, hy⟩
theorem bv_inj {s : Lst} {n : Nat} {q : Nat → Rul} {c v c' v' : Int} (h : bvI s n q c v ≠ 0) (h' : bvI s n q c' v' ≠ 0) (e : bvI s n q c v = bvI s n q c' v') : c = c' ∧ v = v' := by
  obtain ⟨k, rfl, k1, v1, v2, hm, e1⟩ := bv_parts h
  obtain ⟨k', rfl, k1', v1', v2', _, e1'⟩ := bv_parts h'
  obtain ⟨_, _, hx, _⟩ := mod_parts hm
  rw [e1, e1'] at e
  rcases Nat.lt_trichotomy k k' with hlt | heq | hgt
  · have := tS_up (x := s.x) (show k + 1 ≤ k' by omega) (prE_le hx (by omega))
    have h2 : tS s.x (k + 1) = tS s.x k + s.x k + 1 := rfl
    omega
  · subst heq
    exact ⟨rfl, by omega⟩
  · have := tS_up (x := s.x) (show k' + 1 ≤ k by omega) (prE_le hx (by omega))
    have h2 : tS s.x (k' + 1) = tS s.x k' + s.x k' + 1 := rfl
    omega
theorem bv_bd {s : Lst} {n : Nat} {q : Nat → Rul} {c v : Int} (h : bvI s n q c v ≠ 0) : 1 ≤ bvI s n q c v ∧ bvI s n q c v ≤ 12 - fvI s n q ∧ 0 ≤ fvI s n q ∧ fvI s n q ≤ 12 := by
  obtain ⟨k, rfl, k1, v1, v2, hm, e1⟩ := bv_parts h
  obtain ⟨_, _, hx, h12, _⟩ := mod_parts hm
  have h1 := tS_up (x := s.x) (show k + 1 ≤ s.n by omega) hx
  have h2 : tS s.x (k + 1) = tS s.x k + s.x k + 1 := rfl
  have h3 := tS_bd (prE_le hx (show k ≤ s.n by omega))
  have h4 := tS_bd hx
  have hf : fvI s n q = 12 - tS s.x s.n := by unfold fvI; rw [hm]; rfl
  rw [e1, hf]
  omega

set_option linter.unusedSimpArgs false in
set_option linter.unusedVariables false in
set_option maxRecDepth 100000 in
set_option maxHeartbeats 6400000 in
theorem lawFnBoolVar_ok (A0 : Option Addr) (n0 cap0 : Nat) (y0 : Nat → Int) (A1 : Option Addr) (n1 cap1 : Nat) (y1 : Nat → Int) (w : World) (h0 : n0 ≤ 1048576) (hc0 : n0 ≤ cap0) (hr0 : RdY w w.heap.size A0 n0 y0) (h1 : n1 ≤ 1048576) (hc1 : n1 ≤ cap1) (hr1 : RdY w w.heap.size A1 n1 y1) :
    Calls Try.prog 7 #[.slice A0 n0 cap0, .slice A1 n1 cap1] w fun e w' => e = .returned (.bool true) ∧ Below w.heap.size w w' := by
  have hm0 : n0 ≤ maxLen := by unfold maxLen; omega
  have hi0 : ¬ (1048576 : Int) < (n0 : Int) := by omega
  have hm1 : n1 ≤ maxLen := by unfold maxLen; omega
  have hi1 : ¬ (1048576 : Int) < (n1 : Int) := by omega
  go_enter Try.func7, Try.ntmps7
  go_wp2_with fail
  refine (drawBool_any _ _ _ y0 _ hm0 hc0 hr0).mono ?_
  rintro e w1 ⟨As, cs, Ar, cr, sn, n, c, v, rfl, hmt⟩
  obtain ⟨s, q, rfl, hm⟩ := hmt.rd
  have p1 : s.n ≤ 1048576 := by have := hm.hs; omega
  have p3 : n ≤ 1048576 := by have := hm.hn; omega
  have p4 := Lib.hid (fun i hi => Rul.fit_more (hm.fit i hi) (show 22 ≤ 1048576 by omega))
  have HB := Lib.hid hm.bl
  have HM := Lib.hid hm
  clear hmt hm
  go_wp2_with fail
  have hal := bl_alloc (Below.refl w1.heap.size w1) (.cells #[.slice As s.n cs, .slice Ar n cr] 26)
  have x0 : (w1.alloc (.cells #[.slice As s.n cs, .slice Ar n cr] 26)).cell? ⟨w1.heap.size, 0, none⟩ = some (.slice As s.n cs) := by go_simp
  have x1 : (w1.alloc (.cells #[.slice As s.n cs, .slice Ar n cr] 26)).cell? ⟨w1.heap.size, 1, none⟩ = some (.slice Ar n cr) := by go_simp
  have HB' := Lib.hid (bl_trans HB.out hal)
  have HM' := Lib.hid (HM.out.later hal)
  clear hal HB HM
  have HB := HB'
  clear HB'
  have HM := HM'
  clear HM'
  generalize (w1.alloc (.cells #[.slice As s.n cs, .slice Ar n cr] 26)) = w2 at *
  obtain ⟨X, hX⟩ : ∃ X, w1.heap.size = X := ⟨_, rfl⟩
  rw [hX] at x0 x1 ⊢
  clear hX
  refine (drawBool_any _ _ _ y1 _ hm1 hc1 (hr1.later HB.out)).mono ?_
  rintro e w3 ⟨Bs, ds, Br, dr, sm, m, c', v', rfl, hmt⟩
  have hb := hmt.bl
  clear hmt
  have HB' := Lib.hid (bl_trans HB.out hb)
  have HM' := Lib.hid (HM.out.later hb)
  replace x0 := kc hb x0
  replace x1 := kc hb x1
  clear hb HB HM
  have HB := HB'
  clear HB'
  have HM := HM'
  clear HM'
  have hal := bl_alloc (Below.refl w3.heap.size w3) (.cells #[.slice Bs sm ds, .slice Br m dr] 26)
  have z0 := kc hal x0
  have z1 := kc hal x1
  go_wp2_with fail
  have HB' := Lib.hid (bl_trans HB.out hal)
  have HM' := Lib.hid (HM.out.later hal)
  clear hal HB HM
  have HB := HB'
  clear HB'
  have HM := HM'
  clear HM'
  clear x0 x1
  generalize (w3.alloc (.cells #[.slice Bs sm ds, .slice Br m dr] 26)) = w4 at *
  refine (implBool_any s n q As Ar cs cr c v _ p1 p3 p4.out HM.out.rs HM.out.rr).mono ?_
  rintro e w5 ⟨rfl, hb⟩
  have HB' := Lib.hid (bl_trans HB.out hb)
  have HM' := Lib.hid (HM.out.later hb)
  replace z0 := kc hb z0
  replace z1 := kc hb z1
  clear hb HB HM
  have HB := HB'
  clear HB'
  have HM := HM'
  clear HM'
  go_wp2_with fail
  refine (implBool_any s n q As Ar cs cr c' v' _ p1 p3 p4.out HM.out.rs HM.out.rr).mono ?_
  rintro e w6 ⟨rfl, hb⟩
  have HB' := Lib.hid (bl_trans HB.out hb)
  have HM' := Lib.hid (HM.out.later hb)
  replace z0 := kc hb z0
  replace z1 := kc hb z1
  clear hb HB HM
  have HB := HB'
  clear HB'
  have HM := HM'
  clear HM'
  have HInj := Lib.hid (fun h h' e => bv_inj (s := s) (n := n) (q := q) (c := c) (v := v) (c' := c') (v' := v') h h' e)
  have HBd := Lib.hid (fun h => bv_bd (s := s) (n := n) (q := q) (c := c) (v := v) h)
  obtain ⟨a, ha⟩ : ∃ a, bvI s n q c v = a := ⟨_, rfl⟩
  have HA := Lib.hid ha
  rw [ha] at HInj HBd ⊢
  clear ha
  obtain ⟨b, hb⟩ : ∃ b, bvI s n q c' v' = b := ⟨_, rfl⟩
  have HB2 := Lib.hid hb
  rw [hb] at HInj ⊢
  clear hb
  go_wp2_with fail
  refine (specBool_any s n q As Ar cs cr c v _ p1 p3 p4.out HM.out.rs HM.out.rr).mono ?_
  rintro e w7 ⟨rfl, hb⟩
  rw [HA.out]
  have HB' := Lib.hid (bl_trans HB.out hb)
  have HM' := Lib.hid (HM.out.later hb)
  replace z0 := kc hb z0
  replace z1 := kc hb z1
  clear hb HB HM
  have HB := HB'
  clear HB'
  have HM := HM'
  clear HM'
  by_cases a0 : a = 0
  · have e0 : (a == 0) = true := by rw [beq_iff_eq]; exact a0
    clear HInj HBd a0
    go_wp2_with fail
    refine (specBool_any s n q As Ar cs cr c v _ p1 p3 p4.out HM.out.rs HM.out.rr).mono ?_
    rintro e w8 ⟨rfl, hb⟩
    rw [HA.out]
    have HB' := Lib.hid (bl_trans HB.out hb)
    have HM' := Lib.hid (HM.out.later hb)
    replace z0 := kc hb z0
    replace z1 := kc hb z1
    clear hb HB HM
    have HB := HB'
    clear HB'
    have HM := HM'
    clear HM'
    go_wp2
    go_ret
    exact ⟨rfl, HB.out⟩
  · have e0 : (a == 0) = false := by rw [beq_eq_false_iff_ne]; exact a0
    by_cases b0 : b = 0
    · have e1 : (b == 0) = true := by rw [beq_iff_eq]; exact b0
      clear HInj HBd b0
      go_wp2_with fail
      refine (specBool_any s n q As Ar cs cr c v _ p1 p3 p4.out HM.out.rs HM.out.rr).mono ?_
      rintro e w8 ⟨rfl, hb⟩
      rw [HA.out]
      have HB' := Lib.hid (bl_trans HB.out hb)
      have HM' := Lib.hid (HM.out.later hb)
      replace z0 := kc hb z0
      replace z1 := kc hb z1
      clear hb HB HM
      have HB := HB'
      clear HB'
      have HM := HM'
      clear HM'
      go_wp2
      go_ret
      exact ⟨rfl, HB.out⟩
    · have e1 : (b == 0) = false := by rw [beq_eq_false_iff_ne]; exact b0
      obtain ⟨k1, k2, k3, k4⟩ := HBd.out a0
      have HI := Lib.hid (fun e => HInj.out a0 b0 e)
      obtain ⟨F, hF⟩ : ∃ F, fvI s n q = F := ⟨_, rfl⟩
      have HF := Lib.hid hF
      rw [hF] at k2 k3 k4
      clear hF
      have hw : IntKind.i64.wrap (12 - F) = 12 - F := IntWalk.i64_in _ (by omega)
      have hw' : wrap64 (12 - F) = 12 - F := IntWalk.wrap64_in _ (by omega)
      clear HInj HBd a0 b0
      by_cases hc : c = c'
      · by_cases hv : v = v'
        · subst hc
          subst hv
          obtain rfl : a = b := by rw [← HA.out, ← HB2.out]
          clear HI HB2
          go_wp2_with fail
          refine (implFree_any s n q As Ar cs cr _ p1 p3 p4.out HM.out.rs HM.out.rr).mono ?_
          rintro e w8 ⟨rfl, hb⟩
          rw [HF.out]
          have HB8 := Lib.hid (bl_trans HB.out hb)
          clear hb
          go_wp2
          go_ret
          exact ⟨rfl, HB8.out⟩
        · have ec : (c == c') = true := by rw [beq_iff_eq]; exact hc
          have ev : (v == v') = false := by rw [beq_eq_false_iff_ne]; exact hv
          have ea : (a == b) = false := by rw [beq_eq_false_iff_ne]; exact fun e => hv (HI.out e).2
          clear HI hc
          go_wp2_with fail
          refine (implFree_any s n q As Ar cs cr _ p1 p3 p4.out HM.out.rs HM.out.rr).mono ?_
          rintro e w8 ⟨rfl, hb⟩
          rw [HF.out]
          have HB8 := Lib.hid (bl_trans HB.out hb)
          clear hb
          go_wp2
          go_ret
          exact ⟨rfl, HB8.out⟩
      · have ec : (c == c') = false := by rw [beq_eq_false_iff_ne]; exact hc
        have ea : (a == b) = false := by rw [beq_eq_false_iff_ne]; exact fun e => hc (HI.out e).1
        clear HI
        go_wp2_with fail
        refine (implFree_any s n q As Ar cs cr _ p1 p3 p4.out HM.out.rs HM.out.rr).mono ?_
        rintro e w8 ⟨rfl, hb⟩
        rw [HF.out]
        have HB8 := Lib.hid (bl_trans HB.out hb)
        clear hb
        go_wp2
        go_ret
        exact ⟨rfl, HB8.out⟩

set_option linter.unusedSimpArgs false in
set_option linter.unusedVariables false in
set_option maxRecDepth 100000 in
set_option maxHeartbeats 6400000 in
theorem lawFnBoolVar_walk (A0 : Option Addr) (n0 cap0 : Nat) (y0 : Nat → Int) (A1 : Option Addr) (n1 cap1 : Nat) (y1 : Nat → Int) (w : World) (hm0 : n0 ≤ maxLen) (hc0 : n0 ≤ cap0) (hr0 : RdY w w.heap.size A0 n0 y0) (hm1 : n1 ≤ maxLen) (hc1 : n1 ≤ cap1) (hr1 : RdY w w.heap.size A1 n1 y1) :
    Calls Try.prog 7 #[.slice A0 n0 cap0, .slice A1 n1 cap1] w fun e w' => e = .returned (.bool true) ∧ Below w.heap.size w w' := by
  by_cases h0 : n0 ≤ 1048576
  · by_cases h1 : n1 ≤ 1048576
    · exact lawFnBoolVar_ok A0 n0 cap0 y0 A1 n1 cap1 y1 w h0 hc0 hr0 h1 hc1 hr1
    · unfold maxLen at hm1
      have hi0 : ¬ (1048576 : Int) < (n0 : Int) := by omega
      have hi1 : (1048576 : Int) < (n1 : Int) := by omega
      go_enter Try.func7, Try.ntmps7
      go_wp2
      go_ret
      exact ⟨rfl, Below.refl _ _⟩
  · unfold maxLen at hm0
    have hi0 : (1048576 : Int) < (n0 : Int) := by omega
    go_enter Try.func7, Try.ntmps7
    go_wp2
    go_ret
    exact ⟨rfl, Below.refl _ _⟩
end Go.Proofs.Ythjcbaccoogloaa
