/- Contracts of the model's ConstraintValid (no claim of its own). Conditions: as each theorem states. -/
import Derived.Test.YtbebdhjhlheboaaDoorBaseC
import Derived.IntWalk
namespace Go.Proofs.YtbebdhjhlheboaaDoor
open Go.ChangeShapes Go.WideShapes Go.ChangeAt Go.RowKit

def litB (n : Int) : Bool := !(n == 0) && (decide (-12 ≤ n) && decide (n ≤ 12))
def ab (n : Int) : Int := if n < 0 then -n else n
theorem litB_iff {n : Int} : litB n = true ↔ n ≠ 0 ∧ -12 ≤ n ∧ n ≤ 12 := by simp [litB]
theorem litB_no {n : Int} : litB n = false ↔ (n = 0 ∨ n < -12 ∨ 12 < n) := by
  rw [← Bool.not_eq_true, litB_iff]; omega

def okAt (c l : Nat → Int) : Nat → Bool
  | 0 => litB (l 0) && (decide (1 ≤ c 0) && decide (c 0 ≤ 1000))
  | k + 1 => litB (l (k + 1)) && (decide (1 ≤ c (k + 1)) && decide (c (k + 1) ≤ 1000)) && decide (ab (l k) < ab (l (k + 1)))
def vtB (c l : Nat → Int) : Nat → Bool
  | 0 => true
  | k + 1 => vtB c l k && okAt c l k
def validB (n : Nat) (c l : Nat → Int) (bd : Int) : Bool := vtB c l n && (decide (0 ≤ bd) && decide (bd ≤ 20000))

theorem okAt_lit {c l : Nat → Int} {k : Nat} (h : okAt c l k = true) : litB (l k) = true := by
  cases k <;> simp_all [okAt]
theorem okAt_coef {c l : Nat → Int} {k : Nat} (h : okAt c l k = true) : 1 ≤ c k ∧ c k ≤ 1000 := by
  cases k <;> simp_all [okAt]
theorem vtB_at {c l : Nat → Int} {n k : Nat} (h : vtB c l n = true) (hk : k < n) : okAt c l k = true := by
  induction n with
  | zero => omega
  | succ n ih =>
    unfold vtB at h
    rw [Bool.and_eq_true] at h
    by_cases e : k = n
    · subst e; exact h.2
    · exact ih h.1 (by omega)
theorem vtB_no {c l : Nat → Int} {n k : Nat} (h : okAt c l k = false) (hk : k < n) : vtB c l n = false := by
  cases hv : vtB c l n with
  | false => rfl
  | true => rw [vtB_at hv hk] at h; cases h

theorem okAt_no {c l : Nat → Int} {k : Nat} (h : litB (l k) = false ∨ c k < 1 ∨ 1000 < c k) : okAt c l k = false := by
  rcases h with h | h | h <;> cases k <;> simp [okAt, h] <;> omega
theorem validB_no {n : Nat} {c l : Nat → Int} {bd : Int} {k : Nat} (h : okAt c l k = false) (hk : k < n) : validB n c l bd = false := by
  unfold validB
  rw [vtB_no h hk]
  rfl

set_option maxHeartbeats 400000 in
theorem l1Lit_any (n : Int) (w : World) :
    Calls Tryd.prog 51 #[.int .i64 n] w fun e w' => e = .returned (.bool (litB n)) ∧ w' = w := by
  go_enter Tryd.func51, Tryd.ntmps51
  go_wp2
  all_goals go_ret
  all_goals refine ⟨ret_bool ?_, rfl⟩
  all_goals (rw [Bool.eq_iff_iff]; simp [litB]; try omega)

set_option maxHeartbeats 400000 in
theorem l1Abs_any (n : Int) (w : World) (h0 : -12 ≤ n) (h1 : n ≤ 12) :
    Calls Tryd.prog 40 #[.int .i64 n] w fun e w' => e = .returned (.int .i64 (ab n)) ∧ w' = w := by
  by_cases h : n < 0
  · go_enter Tryd.func40, Tryd.ntmps40
    go_wp2
    go_ret
    exact ⟨ret_int (by unfold ab; rw [if_pos h]), rfl⟩
  · go_enter Tryd.func40, Tryd.ntmps40
    go_wp2
    go_ret
    exact ⟨ret_int (by unfold ab; rw [if_neg (by omega)]), rfl⟩

set_option maxRecDepth 100000 in
set_option maxHeartbeats 800000 in
theorem specValid_any (A : Option Addr) (n cap : Nat) (bd : Int) (c l : Nat → Int) (w : World) (hn : n ≤ 1048576) (hr : Rd w w.heap.size A n c l) :
    Calls Tryd.prog 70 #[.agg #[.slice A n cap, .int .i64 bd]] w fun e w' => e = .returned (.bool (validB n c l bd)) ∧ Below w.heap.size w w' := by
  go_enter Tryd.func70, Tryd.ntmps70
  go_wp2
  go_loopw [3] (fun i wr => ∃ k : Nat, k ≤ n ∧ i = .int .i64 k ∧ vtB c l k = true ∧ wr.cell? ⟨w.heap.size, 0, none⟩ = some (.slice A n cap) ∧ wr.cell? ⟨w.heap.size, 1, none⟩ = some (.int .i64 bd) ∧ w.heap.size < wr.heap.size ∧ Below w.heap.size w wr) (fun i _ => n - (intOf i).toNat)
  case atStart => exact ⟨0, Nat.zero_le _, rfl, rfl, by go_simp, by go_simp, by simp, bl_alloc (Below.refl _ _) _⟩
  case round =>
    obtain ⟨k, hk, rfl, hv, hx0, hx1, hsz, hb⟩ := hrel
    have Hv := Lib.hid hv
    clear hv
    by_cases hlt : k < n
    · obtain ⟨b, off, rfl, hbl, hc⟩ := (hr.below hb) (by omega)
      obtain ⟨hc1, hc2⟩ := hc k hlt
      by_cases hL : litB (l k) = true
      · obtain ⟨hl0, hl1, hl2⟩ := litB_iff.1 hL
        by_cases hC1 : c k < 1
        · have no : okAt c l k = false := okAt_no (.inr (.inl hC1))
          clear hc
          go_wp2_with fail
          go_quiet ((go_at_call 51; exact Calls.quiet_of_same (l1Lit_any _ _)))
          go_wp2
          go_ret
          exact ⟨ret_bool (validB_no no hlt).symm, by repeat (first | exact hb | refine bl_alloc ?_ _ | refine bl_drewN ?_ _ | refine Below.drew ?_)⟩
        · by_cases hC2 : 1000 < c k
          · have no : okAt c l k = false := okAt_no (.inr (.inr hC2))
            have hd : decide (c k < 1) = false := by simpa using hC1
            clear hc
            go_wp2_with fail
            go_quiet ((go_at_call 51; exact Calls.quiet_of_same (l1Lit_any _ _)))
            go_wp2
            go_ret
            exact ⟨ret_bool (validB_no no hlt).symm, by repeat (first | exact hb | refine bl_alloc ?_ _ | refine bl_drewN ?_ _ | refine Below.drew ?_)⟩
          · have hd : decide (c k < 1) = false := by simpa using hC1
            have hd2 : decide (1000 < c k) = false := by simpa using hC2
            cases k with
            | zero =>
              simp only [Nat.zero_mul, Nat.add_zero] at hc1 hc2
              have hgo : vtB c l 1 = true := by simp [vtB, okAt, hL]; omega
              have Hgo := Lib.hid hgo
              clear hc hgo
              go_wp2_with fail
              go_quiet ((go_at_call 51; exact Calls.quiet_of_same (l1Lit_any _ _)))
              go_wp2
              go_roundw
              case rel => exact ⟨1, by omega, rfl, Hgo.out, by go_simp, by go_simp, by simp; omega, by repeat (first | exact hb | refine bl_alloc ?_ _ | refine bl_drewN ?_ _ | refine Below.drew ?_)⟩
              case measure => simp [intOf]; omega
            | succ j =>
              obtain ⟨hp1, hp2⟩ := hc j (by omega)
              obtain ⟨hq0, hq1, hq2⟩ := litB_iff.1 (okAt_lit (vtB_at Hv.out (Nat.lt_succ_self j)))
              clear hc hp1
              have hj0 : (0 : Int) ≤ (j : Int) := by omega
              have hj1 : (j : Int) < (n : Int) := by omega
              have hbw : b < wr.heap.size := by omega
              by_cases hA : ab (l j) < ab (l (j + 1))
              · have hgo : vtB c l (j + 1 + 1) = true := by
                  have h1 := Hv.out
                  unfold vtB
                  rw [h1]
                  simp [okAt, hL, hA]
                  omega
                have Hgo := Lib.hid hgo
                clear hgo
                have hd3 : decide (ab (l (j + 1)) ≤ ab (l j)) = false := by simpa using hA
                go_wp2_with fail
                have hwj : IntKind.i64.wrap (j : Int) = j := IntWalk.i64_in _ (by omega)
                go_quiet ((first | (go_at_call 51; exact Calls.quiet_of_same (l1Lit_any _ _)) | (go_at_call 40; exact Calls.quiet_of_same (l1Abs_any _ _ (by assumption) (by assumption)))))
                clear hwj
                go_wp2
                go_roundw
                case rel => exact ⟨j + 1 + 1, by omega, by go_num, Hgo.out, by go_simp, by go_simp, by simp; omega, by repeat (first | exact hb | refine bl_alloc ?_ _ | refine bl_drewN ?_ _ | refine Below.drew ?_)⟩
                case measure => simp [intOf]; omega
              · have no : okAt c l (j + 1) = false := by simp [okAt, hA]
                have No := Lib.hid no
                clear no
                have hd3 : decide (ab (l (j + 1)) ≤ ab (l j)) = true := by simpa using hA
                go_wp2_with fail
                have hwj : IntKind.i64.wrap (j : Int) = j := IntWalk.i64_in _ (by omega)
                go_quiet ((first | (go_at_call 51; exact Calls.quiet_of_same (l1Lit_any _ _)) | (go_at_call 40; exact Calls.quiet_of_same (l1Abs_any _ _ (by assumption) (by assumption)))))
                clear hwj
                go_wp2
                go_ret
                exact ⟨ret_bool (validB_no No.out hlt).symm, by repeat (first | exact hb | refine bl_alloc ?_ _ | refine bl_drewN ?_ _ | refine Below.drew ?_)⟩
      · rw [Bool.not_eq_true] at hL
        have no : okAt c l k = false := okAt_no (.inl hL)
        clear hc
        go_wp2_with fail
        go_quiet ((go_at_call 51; exact Calls.quiet_of_same (l1Lit_any _ _)))
        go_wp2
        go_ret
        exact ⟨ret_bool (validB_no no hlt).symm, by repeat (first | exact hb | refine bl_alloc ?_ _ | refine bl_drewN ?_ _ | refine Below.drew ?_)⟩
    · have e : k = n := by omega
      subst e
      clear hr
      go_wp2
      all_goals go_ret
      all_goals refine ⟨ret_bool ?_, hb⟩
      all_goals (rw [Bool.eq_iff_iff]; simp [validB, Hv.out]; try omega)
end Go.Proofs.YtbebdhjhlheboaaDoor
