/- The walk of the exact law of RupConstraint (no claim of its own). Conditions: as each theorem states. -/
import Derived.Test.YtooknldfkcdneaaRupZ
namespace Go.Proofs.Ytooknldfkcdneaa
open Go.ChangeShapes Go.WideShapes Go.ChangeAt Go.RowKit

set_option linter.unusedVariables false in
set_option maxRecDepth 100000 in
set_option maxHeartbeats 6400000 in
theorem lawRupConstraint_walk (A0 : Option Addr) (m cap0 : Nat) (p : Nat → Con) (A1 : Option Addr) (n cap1 : Nat) (bd : Int) (c l : Nat → Int) (w : World) (hm0 : m ≤ maxLen) (hk0 : ∀ i, i < m → (p i).n ≤ maxLen) (hr0 : RdP w w.heap.size A0 m p) (hm1 : n ≤ maxLen) (hr1 : Rd w w.heap.size A1 n c l) :
    Calls Try.prog 4 #[.slice A0 m cap0, .agg #[.slice A1 n cap1, .int .i64 bd]] w fun e w' => e = .returned (.bool true) ∧ Below w.heap.size w w' := by
  by_cases g0 : (m : Int) + tot p m ≤ 1048576
  · by_cases g1 : (n : Int) ≤ 1048576 - m - tot p m
    · have h0 : m ≤ 1048576 := by omega
      have h1 : n ≤ 1048576 := by omega
      have hn0 : ∀ i, i < m → (p i).n ≤ 1048576 := fun i hi => by have := tot_at p hi; omega
      have hge0 : ¬ ((1048576 : Int) - m - tot p m < 0) := by omega
      have hge1 : ¬ ((1048576 : Int) - m - tot p m - n < 0) := by omega
      have HN0 := Lib.hid hn0
      clear hn0 hk0
      go_enter Try.func4, Try.ntmps4
      go_wp2_with fail
      have hba := bl_alloc (Below.refl w.heap.size w) (.cells #[.slice A1 n cap1, .int .i64 bd] 37)
      have a0 : (w.alloc (.cells #[.slice A1 n cap1, .int .i64 bd] 37)).cell? ⟨w.heap.size, 0, none⟩ = some (.slice A1 n cap1) := by go_simp
      have a1 : (w.alloc (.cells #[.slice A1 n cap1, .int .i64 bd] 37)).cell? ⟨w.heap.size, 1, none⟩ = some (.int .i64 bd) := by go_simp
      have HBa := Lib.hid hba
      clear hba
      generalize (w.alloc (.cells #[.slice A1 n cap1, .int .i64 bd] 37)) = wa at *
      refine (szConstraintS_ok _ _ _ p _ _ (by omega) (by omega) g0 (hr0.later HBa.out)).mono ?_
      rintro e w0 ⟨rfl, hb⟩
      have HB1 := Lib.hid (bl_trans HBa.out hb)
      replace a0 := kc hb a0
      replace a1 := kc hb a1
      clear hb  HBa
      go_wp2_with fail
      refine (szConstraint_ok _ _ _ _ _ _ (by omega) (by omega) g1).mono ?_
      rintro e w1 ⟨rfl, hb⟩
      have HB2 := Lib.hid (bl_trans HB1.out hb)
      replace a0 := kc hb a0
      replace a1 := kc hb a1
      clear hb  HB1
      go_wp2_with fail
      obtain ⟨Y0, hY0⟩ : ∃ Y, w.heap.size = Y := ⟨_, rfl⟩
      rw [hY0] at a0 a1 ⊢
      go_region_held3 (fun w' => w'.cell? ⟨Y0, 0, none⟩ = some (.slice A1 n cap1) ∧ w'.cell? ⟨Y0, 1, none⟩ = some (.int .i64 bd)) (go_keep)
        (first
          | (go_at_call 13; refine (toConstraintS_any _ _ _ p _ h0 HN0.out (hr0.later HB2.out.drew)).mono ?_; rintro e ws0 ⟨Gs0, rfl, hGs0, hos0, hb⟩; have HBs0 := Lib.hid (bl_trans HB2.out.drew hb); have Os0 := Lib.hid hos0; replace a0 := kc hb a0; replace a1 := kc hb a1; clear hb)
          | (go_at_call 23; refine (toConstraint_any _ _ _ _ c l _ h1 (hr1.later HBs0.out)).mono ?_; rintro e ws1 ⟨Gs1, rfl, hGs1, hos1, hb⟩; have HBs1 := Lib.hid (bl_trans HBs0.out hb); have Os1 := Lib.hid hos1; have Os0' := Lib.hid (Os0.out.below hb); replace a0 := kc hb a0; replace a1 := kc hb a1; clear hb)
          | (go_at_call 22; refine (specRup_any _ m m p _ n n bd c l _ h0 (fun e => (by cases e)) Os0'.out.rdAt HN0.out h1 Os1.out.rdAt).mono ?_; rintro e ws ⟨b, rfl, q0, q1, hb⟩; have HBs := Lib.hid (bl_trans HBs1.out hb); replace a0 := kc hb a0; replace a1 := kc hb a1; clear hb))
      clear Os0 Os0' Os1 HBs0 HBs1 hY0
      have Q0 := Lib.hid q0
      have Q1 := Lib.hid q1
      clear q0 q1
      go_wp2_with fail
      refine (toConstraintS_any _ _ _ p _ h0 HN0.out (hr0.later HBs.out)).mono ?_
      rintro e wx0 ⟨Gx0, rfl, hGx0, hox0, hb⟩
      have HB3 := Lib.hid (bl_trans HBs.out hb)
      replace a0 := kc hb a0
      replace a1 := kc hb a1
      have Ox0_0 := Lib.hid hox0
      clear hb  HBs
      clear hox0
      go_wp2_with fail
      refine (toConstraint_any _ _ _ _ c l _ h1 (hr1.later HB3.out)).mono ?_
      rintro e wx1 ⟨Gx1, rfl, hGx1, hox1, hb⟩
      have HB4 := Lib.hid (bl_trans HB3.out hb)
      replace a0 := kc hb a0
      replace a1 := kc hb a1
      have Ox0_1 := Lib.hid (Ox0_0.out.below hb)
      have Ox1_0 := Lib.hid hox1
      clear hb Ox0_0 HB3
      clear hox1
      go_wp2_with fail
      have x0 : (wx1.alloc (.cells #[.slice (some ⟨Gx1, 0, none⟩) n n, .int .i64 bd] 42)).cell? ⟨wx1.heap.size, 0, none⟩ = some (.slice (some ⟨Gx1, 0, none⟩) n n) := by go_simp
      have x1 : (wx1.alloc (.cells #[.slice (some ⟨Gx1, 0, none⟩) n n, .int .i64 bd] 42)).cell? ⟨wx1.heap.size, 1, none⟩ = some (.int .i64 bd) := by go_simp
      have hb := bl_alloc (Below.refl wx1.heap.size wx1) (.cells #[.slice (some ⟨Gx1, 0, none⟩) n n, .int .i64 bd] 42)
      have HB5 := Lib.hid (bl_trans HB4.out hb)
      replace a0 := kc hb a0
      replace a1 := kc hb a1
      have Ox0_2 := Lib.hid (Ox0_1.out.below hb)
      have Ox1_1 := Lib.hid (Ox1_0.out.below hb Ox1_0.out.lt)
      clear hb Ox0_1 Ox1_0 HB4
      obtain ⟨X, hX⟩ : ∃ X, wx1.heap.size = X := ⟨_, rfl⟩
      rw [hX] at x0 x1 ⊢
      clear hX
      generalize (wx1.alloc (.cells #[.slice (some ⟨Gx1, 0, none⟩) n n, .int .i64 bd] 42)) = wx2 at *
      refine (implRup_any _ m m p _ n n bd c l _ h0 Ox0_2.out.rdAt HN0.out h1 Ox1_1.out.rdAt).mono ?_
      rintro e wi ⟨b', rfl, r0, r1, hb⟩
      have HB6 := Lib.hid (bl_trans HB5.out hb)
      replace a0 := kc hb a0
      replace a1 := kc hb a1
      replace x0 := kc hb x0
      replace x1 := kc hb x1
      have Ox0_3 := Lib.hid (Ox0_2.out.below hb)
      have Ox1_2 := Lib.hid (Ox1_1.out.below hb Ox1_1.out.lt)
      clear hb Ox0_2 Ox1_1 HB5
      have hbb : b' = b := by
        cases hok : (probB m p && validB n c l bd) with
        | false => rw [Q0.out hok, r0 hok]
        | true => exact (r1 hok).one (Q1.out hok)
      subst hbb
      clear r0 r1 Q0 Q1
      go_wp2_with fail
      refine (toConstraintS_any _ _ _ p _ h0 HN0.out (hr0.later HB6.out)).mono ?_
      rintro e wy0 ⟨Gy0, rfl, hGy0, hoy0, hb⟩
      have HB7 := Lib.hid (bl_trans HB6.out hb)
      replace a0 := kc hb a0
      replace a1 := kc hb a1
      replace x0 := kc hb x0
      replace x1 := kc hb x1
      have Ox0_4 := Lib.hid (Ox0_3.out.below hb)
      have Ox1_3 := Lib.hid (Ox1_2.out.below hb Ox1_2.out.lt)
      have Oy0_0 := Lib.hid hoy0
      clear hb Ox0_3 Ox1_2 HB6
      clear hoy0
      go_wp2_with fail
      refine (eqConstraintS_refl _ _ _ _ _ p _ h0 HN0.out Ox0_4.out.rdAt Oy0_0.out.rdAt).mono ?_
      rintro e wq ⟨rfl, hb⟩
      have HB8 := Lib.hid (bl_trans HB7.out hb)
      replace a0 := kc hb a0
      replace a1 := kc hb a1
      replace x0 := kc hb x0
      replace x1 := kc hb x1
      have Ox1_4 := Lib.hid (Ox1_3.out.below hb Ox1_3.out.lt)
      clear hb Ox0_4 Ox1_3 Oy0_0 HB7
      go_wp2_with fail
      have HOx := Lib.hid Ox1_4.out
      have HBz := Lib.hid HB8.out
      go_region_held3 (fun w' => w'.cell? ⟨Y0, 0, none⟩ = some (.slice A1 n cap1) ∧ w'.cell? ⟨Y0, 1, none⟩ = some (.int .i64 bd) ∧ w'.cell? ⟨X, 0, none⟩ = some (.slice (some ⟨Gx1, 0, none⟩) n n) ∧ w'.cell? ⟨X, 1, none⟩ = some (.int .i64 bd)) (go_keep)
        (first
          | (go_at_call 23; refine (toConstraint_any _ _ _ _ c l _ h1 (hr1.later HBz.out.drew)).mono ?_; rintro e w8 ⟨G8, rfl, hG8, hown8, hb⟩; have HB98 := Lib.hid (bl_trans HBz.out.drew hb); have HO8 := Lib.hid (OwnT.below (w := wq.drew) HOx.out hb HOx.out.lt); replace a0 := kc hb a0; replace a1 := kc hb a1; replace x0 := kc hb x0; replace x1 := kc hb x1; clear hb)
          | (go_at_call 25; refine (eqConstraint_same _ _ _ _ _ _ _ c l c l _ h1 HO8.out.rdAt hown8.rdAt).mono ?_; rintro e w9 ⟨rfl, hb⟩; have HB99 := Lib.hid (bl_trans HB98.out hb); replace a0 := kc hb a0; replace a1 := kc hb a1; replace x0 := kc hb x0; replace x1 := kc hb x1; clear hb; rw [ceq_refl]))
      go_wp2
      go_ret
      exact ⟨rfl, HB99.out⟩
    · have h1 : ¬ (n : Int) ≤ 1048576 - m - tot p m := g1
      clear hk0
      go_enter Try.func4, Try.ntmps4
      go_wp2_with fail
      refine (szConstraintS_ok _ _ _ p _ _ (by omega) (by omega) g0 (hr0.later (bl_alloc (Below.refl w.heap.size w) _))).mono ?_
      rintro e w0 ⟨rfl, hb⟩
      have HB := Lib.hid (bl_trans (bl_alloc (Below.refl w.heap.size w) _) hb)
      have hge0 : ¬ ((1048576 : Int) - m - tot p m < 0) := by omega
      have a0 : w0.cell? ⟨w.heap.size, 0, none⟩ = some (.slice A1 n cap1) := kc hb (by go_simp)
      have a1 : w0.cell? ⟨w.heap.size, 1, none⟩ = some (.int .i64 bd) := kc hb (by go_simp)
      clear hb
      go_wp2_with fail
      refine (szConstraint_no _ _ _ _ _ _ (by omega) (by omega) (by omega) hm1).mono ?_
      rintro e w1 ⟨rfl, hb⟩
      have HB1 := Lib.hid (bl_trans HB.out hb)
      clear hb a0 a1
      go_wp2
      go_ret
      exact ⟨rfl, HB1.out⟩
  · have HM := Lib.hid hk0
    clear hk0
    go_enter Try.func4, Try.ntmps4
    go_wp2_with fail
    refine (szConstraintS_no _ _ _ p _ _ (by omega) (by omega) (by omega) hm0 HM.out (hr0.later (bl_alloc (Below.refl w.heap.size w) _))).mono ?_
    rintro e w0 ⟨rfl, hb⟩
    have HB := Lib.hid (bl_trans (bl_alloc (Below.refl w.heap.size w) _) hb)
    clear hb
    go_wp2
    go_ret
    exact ⟨rfl, HB.out⟩
end Go.Proofs.Ytooknldfkcdneaa
