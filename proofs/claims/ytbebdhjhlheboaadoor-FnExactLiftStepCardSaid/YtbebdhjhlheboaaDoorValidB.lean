/- Contracts of the program's ConstraintValid (no claim of its own). Conditions: as each theorem states. -/
import Derived.Test.YtbebdhjhlheboaaDoorValidA
namespace Go.Proofs.YtbebdhjhlheboaaDoor
open Go.ChangeShapes Go.WideShapes Go.ChangeAt Go.RowKit

def lastOf (l : Nat → Int) : Nat → Int
  | 0 => 0
  | k + 1 => ab (l k)
theorem ab_pos {n : Int} (h : litB n = true) : 1 ≤ ab n ∧ ab n ≤ 12 := by
  have := litB_iff.1 h
  unfold ab
  split <;> omega
theorem okAt_iff {c l : Nat → Int} {k : Nat} : okAt c l k = true ↔ litB (l k) = true ∧ 1 ≤ c k ∧ c k ≤ 1000 ∧ lastOf l k < ab (l k) := by
  cases k with
  | zero =>
    constructor
    · intro h
      have h1 := okAt_lit h
      have h2 := okAt_coef h
      exact ⟨h1, h2.1, h2.2, by have := ab_pos h1; show (0 : Int) < _; omega⟩
    · rintro ⟨h1, h2, h3, _⟩
      simp [okAt, h1, h2, h3]
  | succ k =>
    constructor
    · intro h
      have h1 := okAt_lit h
      have h2 := okAt_coef h
      simp [okAt] at h
      exact ⟨h1, h2.1, h2.2, h.2⟩
    · rintro ⟨h1, h2, h3, h4⟩
      have h5 : ab (l k) < ab (l (k + 1)) := h4
      simp [okAt, h1, h2, h3, h5]
theorem okAt_nf {c l : Nat → Int} {k : Nat} (h : ¬ (litB (l k) = true ∧ 1 ≤ c k ∧ c k ≤ 1000 ∧ lastOf l k < ab (l k))) : okAt c l k = false := by
  rw [← Bool.not_eq_true, okAt_iff]; exact h

set_option maxHeartbeats 400000 in
theorem litValid_any (n : Int) (w : World) :
    Calls Tryd.prog 58 #[.int .i64 n] w fun e w' => e = .returned (.bool (litB n)) ∧ w = w' := by
  go_enter Tryd.func58, Tryd.ntmps58
  go_wp2
  all_goals go_ret
  all_goals refine ⟨ret_bool ?_, rfl⟩
  all_goals (rw [Bool.eq_iff_iff]; simp [litB]; try omega)

set_option maxHeartbeats 400000 in
theorem litVariable_any (n : Int) (w : World) (h0 : -12 ≤ n) (h1 : n ≤ 12) :
    Calls Tryd.prog 59 #[.int .i64 n] w fun e w' => e = .returned (.int .i64 (ab n)) ∧ w = w' := by
  by_cases h : n < 0
  · go_enter Tryd.func59, Tryd.ntmps59
    go_wp2
    go_ret
    exact ⟨ret_int (by unfold ab; rw [if_pos h]), rfl⟩
  · go_enter Tryd.func59, Tryd.ntmps59
    go_wp2
    go_ret
    exact ⟨ret_int (by unfold ab; rw [if_neg (by omega)]), rfl⟩

set_option maxRecDepth 100000 in
set_option maxHeartbeats 800000 in
theorem implValid_out (A : Option Addr) (n cap : Nat) (bd : Int) (c l : Nat → Int) (w : World) (hbd : bd < 0 ∨ 20000 < bd) :
    Calls Tryd.prog 43 #[.agg #[.slice A n cap, .int .i64 bd]] w fun e w' => e = .returned (.bool (validB n c l bd)) ∧ Below w.heap.size w w' := by
  have no : validB n c l bd = false := by
    rcases hbd with h | h <;> simp [validB] <;> omega
  have No := Lib.hid no
  clear no
  rcases hbd with h | h
  · go_enter Tryd.func43, Tryd.ntmps43
    go_wp2
    go_ret
    exact ⟨ret_bool No.out.symm, bl_alloc (Below.refl _ _) _⟩
  · have h0 : ¬ bd < 0 := by omega
    go_enter Tryd.func43, Tryd.ntmps43
    go_wp2
    go_ret
    exact ⟨ret_bool No.out.symm, bl_alloc (Below.refl _ _) _⟩

set_option maxRecDepth 100000 in
set_option maxHeartbeats 1600000 in
theorem implValid_in (A : Option Addr) (n cap : Nat) (bd : Int) (c l : Nat → Int) (w : World) (hn : n ≤ 1048576) (hr : Rd w w.heap.size A n c l) (hb0 : 0 ≤ bd) (hb1 : bd ≤ 20000) :
    Calls Tryd.prog 43 #[.agg #[.slice A n cap, .int .i64 bd]] w fun e w' => e = .returned (.bool (validB n c l bd)) ∧ Below w.heap.size w w' := by
  go_enter Tryd.func43, Tryd.ntmps43
  go_wp2
  go_loopw [3, 18] (fun t i wr => ∃ k : Nat, k ≤ n ∧ i = .int .i64 k ∧ t = .int .i64 (lastOf l k) ∧ vtB c l k = true ∧ Below w.heap.size w wr) (fun _ i _ => n - (intOf i).toNat)
  case atStart => exact ⟨0, Nat.zero_le _, rfl, rfl, rfl, bl_alloc (Below.refl _ _) _⟩
  case round =>
    obtain ⟨k, hk, rfl, rfl, hv, hb⟩ := hrel
    have Hv := Lib.hid hv
    clear hv
    by_cases hlt : k < n
    · obtain ⟨b, off, rfl, hbl, hc⟩ := (hr.below hb) (by omega)
      obtain ⟨hc1, hc2⟩ := hc k hlt
      clear hc hr
      by_cases hL : litB (l k) = true
      · obtain ⟨hl0, hl1, hl2⟩ := litB_iff.1 hL
        by_cases hok : okAt c l k = true
        · obtain ⟨_, hC1, hC2, hA⟩ := okAt_iff.1 hok
          have hgo : vtB c l (k + 1) = true := by
            have h1 := Hv.out
            unfold vtB
            rw [h1, hok]
            rfl
          have Hgo := Lib.hid hgo
          clear hgo hok hl0
          go_wp2_with (first | (go_at_call 58; refine (litValid_any _ _).mono ?_; rintro e w' ⟨rfl, rfl⟩) | (go_at_call 59; refine (litVariable_any _ _ (by assumption) (by assumption)).mono ?_; rintro e w' ⟨rfl, rfl⟩))
          go_roundw
          case rel => exact ⟨k + 1, by omega, by go_num, rfl, Hgo.out, by repeat (first | exact hb | refine bl_alloc ?_ _ | refine bl_drewN ?_ _ | refine Below.drew ?_)⟩
          case measure => simp [intOf]; omega
        · rw [Bool.not_eq_true] at hok
          have No := Lib.hid hok
          have hno : ¬ (1 ≤ c k ∧ c k ≤ 1000 ∧ lastOf l k < ab (l k)) := by
            intro h
            rw [okAt_iff.2 ⟨hL, h⟩] at hok
            cases hok
          clear hok hl0
          have key : (ab (l k) ≤ lastOf l k) ∨ (¬ (ab (l k) ≤ lastOf l k) ∧ c k < 1) ∨ (¬ (ab (l k) ≤ lastOf l k) ∧ ¬ (c k < 1) ∧ 1000 < c k) := by omega
          clear hno
          rcases key with h | ⟨h, h2⟩ | ⟨h, h2, h3⟩
          all_goals
            go_wp2_with (first | (go_at_call 58; refine (litValid_any _ _).mono ?_; rintro e w' ⟨rfl, rfl⟩) | (go_at_call 59; refine (litVariable_any _ _ (by assumption) (by assumption)).mono ?_; rintro e w' ⟨rfl, rfl⟩))
            go_ret
            exact ⟨ret_bool (validB_no No.out hlt).symm, by repeat (first | exact hb | refine bl_alloc ?_ _ | refine bl_drewN ?_ _ | refine Below.drew ?_)⟩
      · rw [Bool.not_eq_true] at hL
        have no : okAt c l k = false := okAt_no (.inl hL)
        have No := Lib.hid no
        clear no
        go_wp2_with (go_at_call 58; refine (litValid_any _ _).mono ?_; rintro e w' ⟨rfl, rfl⟩)
        go_ret
        exact ⟨ret_bool (validB_no No.out hlt).symm, by repeat (first | exact hb | refine bl_alloc ?_ _ | refine bl_drewN ?_ _ | refine Below.drew ?_)⟩
    · have e : k = n := by omega
      subst e
      clear hr
      go_wp2
      go_ret
      exact ⟨ret_bool (by simp [validB, Hv.out, hb0, hb1]), hb⟩

theorem implValid_any (A : Option Addr) (n cap : Nat) (bd : Int) (c l : Nat → Int) (w : World) (hn : n ≤ 1048576) (hr : Rd w w.heap.size A n c l) :
    Calls Tryd.prog 43 #[.agg #[.slice A n cap, .int .i64 bd]] w fun e w' => e = .returned (.bool (validB n c l bd)) ∧ Below w.heap.size w w' := by
  by_cases h : bd < 0 ∨ 20000 < bd
  · exact implValid_out A n cap bd c l w h
  · exact implValid_in A n cap bd c l w hn hr (by omega) (by omega)
end Go.Proofs.YtbebdhjhlheboaaDoor
