/- Contracts of the two checks ahead of the normal form (no claim of its own). Conditions: as each theorem states. -/
import Derived.Test.YtkahehfcedcpaaaNegB
namespace Go.Proofs.Ytkahehfcedcpaaa
open Go.ChangeShapes Go.WideShapes Go.ChangeAt Go.RowKit

/-- A term that may be normalized. -/
def okN (c l : Nat → Int) (k : Nat) : Bool := litB (l k) && (decide (-1000 ≤ c k) && decide (c k ≤ 1000))
def allN (c l : Nat → Int) : Nat → Bool
  | 0 => true
  | k + 1 => allN c l k && okN c l k
def preB (n : Nat) (c l : Nat → Int) (bd : Int) : Bool := allN c l n && (decide (n ≤ 40) && (decide (-20000 ≤ bd) && decide (bd ≤ 20000)))
theorem allN_at {c l : Nat → Int} {n k : Nat} (h : allN c l n = true) (hk : k < n) : okN c l k = true := by
  induction n with
  | zero => omega
  | succ n ih =>
    unfold allN at h
    rw [Bool.and_eq_true] at h
    by_cases e : k = n
    · subst e; exact h.2
    · exact ih h.1 (by omega)
theorem allN_succ {c l : Nat → Int} {k : Nat} (h : allN c l k = true) (h2 : okN c l k = true) : allN c l (k + 1) = true := by
  unfold allN; rw [h, h2]; rfl
theorem preB_no {n : Nat} {c l : Nat → Int} {bd : Int} {k : Nat} (h : okN c l k = false) (hk : k < n) : preB n c l bd = false := by
  cases hv : allN c l n with
  | false => unfold preB; rw [hv]; rfl
  | true => rw [allN_at hv hk] at h; cases h
theorem preB_out {n : Nat} {c l : Nat → Int} {bd : Int} (h : 40 < n ∨ bd < -20000 ∨ 20000 < bd) : preB n c l bd = false := by
  rcases h with h | h | h <;> simp [preB] <;> omega
theorem preB_in {n : Nat} {c l : Nat → Int} {bd : Int} (h : allN c l n = true) (h1 : n ≤ 40) (h2 : -20000 ≤ bd) (h3 : bd ≤ 20000) : preB n c l bd = true := by
  simp [preB, h, h1, h2, h3]
theorem preB_iff {n : Nat} {c l : Nat → Int} {bd : Int} : preB n c l bd = true ↔ allN c l n = true ∧ n ≤ 40 ∧ -20000 ≤ bd ∧ bd ≤ 20000 := by
  simp [preB]
theorem okN_iff {c l : Nat → Int} {k : Nat} : okN c l k = true ↔ litB (l k) = true ∧ -1000 ≤ c k ∧ c k ≤ 1000 := by simp [okN]
theorem okN_nf {c l : Nat → Int} {k : Nat} (h : litB (l k) = false ∨ c k < -1000 ∨ 1000 < c k) : okN c l k = false := by
  rcases h with h | h | h <;> simp [okN, h] <;> omega

set_option maxRecDepth 100000 in
set_option maxHeartbeats 800000 in
theorem canNorm_out (A : Option Addr) (n cap : Nat) (bd : Int) (c l : Nat → Int) (w : World) (hn : n ≤ 1048576) (h : 40 < n ∨ bd < -20000 ∨ 20000 < bd) :
    Calls Try.prog 43 #[.slice A n cap, .int .i64 bd] w fun e w' => e = .returned (.bool (preB n c l bd)) ∧ Below w.heap.size w w' := by
  have No := Lib.hid (preB_out (c := c) (l := l) h)
  rcases h with h | h | h
  · go_enter Try.func43, Try.ntmps43
    go_wp2
    go_ret
    exact ⟨ret_bool No.out.symm, Below.refl _ _⟩
  · by_cases h1 : 40 < n
    · go_enter Try.func43, Try.ntmps43
      go_wp2
      go_ret
      exact ⟨ret_bool No.out.symm, Below.refl _ _⟩
    · go_enter Try.func43, Try.ntmps43
      go_wp2
      go_ret
      exact ⟨ret_bool No.out.symm, Below.refl _ _⟩
  · by_cases h1 : 40 < n
    · go_enter Try.func43, Try.ntmps43
      go_wp2
      go_ret
      exact ⟨ret_bool No.out.symm, Below.refl _ _⟩
    · have h2 : ¬ bd < -20000 := by omega
      go_enter Try.func43, Try.ntmps43
      go_wp2
      go_ret
      exact ⟨ret_bool No.out.symm, Below.refl _ _⟩

set_option maxRecDepth 100000 in
set_option maxHeartbeats 1600000 in
theorem canNorm_in (A : Option Addr) (n cap : Nat) (bd : Int) (c l : Nat → Int) (w : World) (hn : n ≤ 1048576) (hr : Rd w w.heap.size A n c l) (h1 : n ≤ 40) (h2 : -20000 ≤ bd) (h3 : bd ≤ 20000) :
    Calls Try.prog 43 #[.slice A n cap, .int .i64 bd] w fun e w' => e = .returned (.bool (preB n c l bd)) ∧ Below w.heap.size w w' := by
  go_enter Try.func43, Try.ntmps43
  go_wp2
  go_loopw [20] (fun i wr => ∃ k : Nat, k ≤ n ∧ i = .int .i64 k ∧ allN c l k = true ∧ Below w.heap.size w wr) (fun i _ => n - (intOf i).toNat)
  case atStart => exact ⟨0, Nat.zero_le _, rfl, rfl, Below.refl _ _⟩
  case round =>
    obtain ⟨k, hk, rfl, hv, hb⟩ := hrel
    have Hv := Lib.hid hv
    clear hv
    by_cases hlt : k < n
    · obtain ⟨b, off, rfl, hbl, hc⟩ := (hr.below hb) (by omega)
      obtain ⟨hc1, hc2⟩ := hc k hlt
      clear hc hr
      cases hL : litB (l k) with
      | false =>
        have No := Lib.hid (preB_no (bd := bd) (okN_nf (c := c) (.inl hL)) hlt)
        go_wp2_with (go_at_call 37; refine (litValid_any _ _).mono ?_; rintro e w' ⟨rfl, rfl⟩)
        go_ret
        exact ⟨ret_bool No.out.symm, by repeat (first | exact hb | refine bl_alloc ?_ _ | refine bl_drewN ?_ _ | refine Below.drew ?_)⟩
      | true =>
        by_cases hC : c k < -1000 ∨ 1000 < c k
        · have No := Lib.hid (preB_no (bd := bd) (okN_nf (c := c) (l := l) (.inr hC)) hlt)
          have key : c k < -1000 ∨ (¬ c k < -1000 ∧ 1000 < c k) := by omega
          clear hC
          rcases key with h | ⟨h, h'⟩
          all_goals
            go_wp2_with (go_at_call 37; refine (litValid_any _ _).mono ?_; rintro e w' ⟨rfl, rfl⟩)
            go_ret
            exact ⟨ret_bool No.out.symm, by repeat (first | exact hb | refine bl_alloc ?_ _ | refine bl_drewN ?_ _ | refine Below.drew ?_)⟩
        · have q1 : ¬ c k < -1000 := by omega
          have q2 : ¬ 1000 < c k := by omega
          have Hgo := Lib.hid (allN_succ Hv.out (okN_iff.2 ⟨hL, by omega, by omega⟩))
          clear hC
          go_wp2_with (go_at_call 37; refine (litValid_any _ _).mono ?_; rintro e w' ⟨rfl, rfl⟩)
          go_roundw
          case rel => exact ⟨k + 1, by omega, by go_num, Hgo.out, by repeat (first | exact hb | refine bl_alloc ?_ _ | refine bl_drewN ?_ _ | refine Below.drew ?_)⟩
          case measure => simp [intOf]; omega
    · have e : k = n := by omega
      subst e
      clear hr
      go_wp2
      go_ret
      exact ⟨ret_bool (preB_in Hv.out h1 h2 h3).symm, hb⟩

theorem canNorm_any (A : Option Addr) (n cap : Nat) (bd : Int) (c l : Nat → Int) (w : World) (hn : n ≤ 1048576) (hr : Rd w w.heap.size A n c l) :
    Calls Try.prog 43 #[.slice A n cap, .int .i64 bd] w fun e w' => e = .returned (.bool (preB n c l bd)) ∧ Below w.heap.size w w' := by
  by_cases h : 40 < n ∨ bd < -20000 ∨ 20000 < bd
  · exact canNorm_out A n cap bd c l w hn h
  · exact canNorm_in A n cap bd c l w hn hr (by omega) (by omega) (by omega)
end Go.Proofs.Ytkahehfcedcpaaa
