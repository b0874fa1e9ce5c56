/- Contracts of the model's and the program's ConstraintSame (no claim of its own). Conditions: as each theorem states. -/
import Derived.Test.YtbebdhjhlheboaaComA
import Derived.Test.YtbebdhjhlheboaaValidB
import Derived.Laws.StructEq
namespace Go.Proofs.Ytbebdhjhlheboaa
open Go.ChangeShapes Go.WideShapes Go.ChangeAt Go.RowKit

theorem teq_no1 {c l c' l' : Int} (h : ¬ c = c') : (!teq c l c' l') = true := by simp [teq, h]
theorem teq_no2 {c l c' l' : Int} (h : ¬ l = l') : (!teq c l c' l') = true := by simp [teq, h]
theorem teq_yes {c l c' l' : Int} (h : c = c') (h' : l = l') : (!teq c l c' l') = false := by simp [teq, h, h']

/-- Two constraints are equal in every field. -/
def same (n n' : Nat) (c l c' l' : Nat → Int) (bd bd' : Int) : Bool := bd == bd' && (n == n' && tseq c l c' l' n)

set_option maxRecDepth 100000 in
set_option maxHeartbeats 800000 in
theorem slicesEqual_same (A A' : Option Addr) (n cap cap' : Nat) (c l c' l' : Nat → Int) (w : World) (hn : n ≤ 1048576) (hr : Rd w w.heap.size A n c l) (hr' : Rd w w.heap.size A' n c' l') :
    Calls Try.prog 96 #[.slice A n cap, .slice A' n cap'] w fun e w' => e = .returned (.bool (tseq c l c' l' n)) ∧ Below w.heap.size w w' := by
  go_enter Try.func96, Try.ntmps96
  go_wp2
  go_loopw [13, 5] (fun i _ wr => ∃ k : Nat, k ≤ n ∧ i = .int .i64 k ∧ tseq c l c' l' k = true ∧ Below w.heap.size w wr) (fun i _ _ => n - (intOf i).toNat)
  case atStart => exact ⟨0, Nat.zero_le _, rfl, rfl, Below.refl _ _⟩
  case round =>
    obtain ⟨k, hk, rfl, heq, hb⟩ := hrel
    have Heq := Lib.hid heq
    clear heq
    by_cases hlt : k < n
    · obtain ⟨b, off, rfl, hbl, hc⟩ := (hr.below hb) (by omega)
      obtain ⟨b', off', rfl, hbl', hc'⟩ := (hr'.below hb) (by omega)
      obtain ⟨hc1, hc2⟩ := hc k hlt
      obtain ⟨hc3, hc4⟩ := hc' k hlt
      clear hc hc' hr hr'
      have hlt' : (k : Int) < (n : Int) := by omega
      have hk0 : (0 : Int) ≤ (k : Int) := by omega
      by_cases h1 : c k = c' k
      · by_cases h2 : l k = l' k
        · have Ht := Lib.hid (teq_yes h1 h2)
          go_wp2_with fail
          go_quiet (fail)
          go_wp2
          go_roundw
          case rel => exact ⟨k + 1, by omega, by go_num, tseq_yes Heq.out Ht.out, bl_drewN hb _⟩
          case measure => simp [intOf]; omega
        · have Ht := Lib.hid (teq_no2 (c := c k) (c' := c' k) h2)
          go_wp2_with fail
          go_quiet (fail)
          go_wp2
          go_ret
          exact ⟨ret_bool (tseq_no hlt Ht.out).symm, bl_drewN hb _⟩
      · have Ht := Lib.hid (teq_no1 (l := l k) (l' := l' k) h1)
        go_wp2_with fail
        go_quiet (fail)
        go_wp2
        go_ret
        exact ⟨ret_bool (tseq_no hlt Ht.out).symm, bl_drewN hb _⟩
    · have e : k = n := by omega
      subst e
      go_wp2
      go_ret
      exact ⟨ret_bool Heq.out.symm, hb⟩

theorem same_no {n n' : Nat} {c l c' l' : Nat → Int} {bd bd' : Int} (h : bd ≠ bd' ∨ n ≠ n') : same n n' c l c' l' bd bd' = false := by
  rcases h with h | h <;> simp [same, h]

set_option maxRecDepth 100000 in
set_option maxHeartbeats 800000 in
theorem slicesEqual_len (A A' : Option Addr) (n n' cap cap' : Nat) (w : World) (hne : n ≠ n') :
    Calls Try.prog 96 #[.slice A n cap, .slice A' n' cap'] w fun e w' => e = .returned (.bool false) ∧ Below w.heap.size w w' := by
  have hd : ((n : Int) != (n' : Int)) = true := by rw [bne_iff_ne]; omega
  go_enter Try.func96, Try.ntmps96
  go_wp2
  go_ret
  exact ⟨rfl, Below.refl _ _⟩

theorem slicesEqual_any (A A' : Option Addr) (n n' cap cap' : Nat) (c l c' l' : Nat → Int) (w : World) (hn : n ≤ 1048576) (hr : Rd w w.heap.size A n c l) (hr' : Rd w w.heap.size A' n' c' l') :
    Calls Try.prog 96 #[.slice A n cap, .slice A' n' cap'] w fun e w' => e = .returned (.bool (n == n' && tseq c l c' l' n)) ∧ Below w.heap.size w w' := by
  by_cases h : n = n'
  · subst h
    exact (slicesEqual_same A A' n cap cap' c l c' l' w hn hr hr').mono fun e w' ⟨he, hb⟩ => ⟨by rw [he]; simp, hb⟩
  · exact (slicesEqual_len A A' n n' cap cap' w h).mono fun e w' ⟨he, hb⟩ => ⟨by rw [he]; simp [h], hb⟩

set_option maxRecDepth 100000 in
set_option maxHeartbeats 800000 in
theorem implSame_any (A A' : Option Addr) (n n' cap cap' : Nat) (bd bd' : Int) (c l c' l' : Nat → Int) (w : World) (hn : n ≤ 1048576) (hr : Rd w w.heap.size A n c l) (hr' : Rd w w.heap.size A' n' c' l') :
    Calls Try.prog 60 #[.agg #[.slice A n cap, .int .i64 bd], .agg #[.slice A' n' cap', .int .i64 bd']] w fun e w' => e = .returned (.bool (same n n' c l c' l' bd bd')) ∧ Below w.heap.size w w' := by
  by_cases hbd : bd = bd'
  · subst hbd
    go_enter Try.func60, Try.ntmps60
    go_wp2_with (go_at_call 96; refine (slicesEqual_any _ _ _ _ _ _ c l c' l' _ hn ((hr.below (by repeat (first | exact Below.refl _ _ | refine bl_alloc ?_ _))).more (by simp; omega)) ((hr'.below (by repeat (first | exact Below.refl _ _ | refine bl_alloc ?_ _))).more (by simp; omega))).mono ?_; rintro e w' ⟨rfl, hb⟩)
    go_ret
    exact ⟨ret_bool (by simp [same]), bl_trans (bl_alloc (bl_alloc (Below.refl _ _) _) _) hb⟩
  · have hne := same_no (n := n) (n' := n') (c := c) (l := l) (c' := c') (l' := l') (.inl hbd)
    have Hne := Lib.hid hne
    clear hne
    have hd : (bd == bd') = false := by simpa using hbd
    clear hbd
    go_enter Try.func60, Try.ntmps60
    go_wp2
    go_ret
    exact ⟨ret_bool Hne.out.symm, bl_alloc (bl_alloc (Below.refl _ _) _) _⟩
end Go.Proofs.Ytbebdhjhlheboaa
