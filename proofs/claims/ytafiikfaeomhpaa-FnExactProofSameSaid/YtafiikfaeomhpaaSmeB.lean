/- Contract of the model's ConstraintSame (no claim of its own). Conditions: as each theorem states. -/
import Derived.Test.YtafiikfaeomhpaaSmeA
namespace Go.Proofs.Ytafiikfaeomhpaa
open Go.ChangeShapes Go.WideShapes Go.ChangeAt Go.RowKit

set_option maxRecDepth 100000 in
set_option maxHeartbeats 800000 in
theorem specSame_bd (A A' : Option Addr) (n n' cap cap' : Nat) (bd bd' : Int) (w : World) (hd : (bd != bd') = true) :
    Calls Try.prog 70 #[.agg #[.slice A n cap, .int .i64 bd], .agg #[.slice A' n' cap', .int .i64 bd']] w fun e w' => e = .returned (.bool false) ∧ Below w.heap.size w w' := by
  go_enter Try.func70, Try.ntmps70
  go_wp2
  go_ret
  exact ⟨rfl, bl_alloc (bl_alloc (Below.refl _ _) _) _⟩

set_option maxRecDepth 100000 in
set_option maxHeartbeats 800000 in
theorem specSame_len (A A' : Option Addr) (n n' cap cap' : Nat) (bd : Int) (w : World) (hne : ((n : Int) != (n' : Int)) = true) :
    Calls Try.prog 70 #[.agg #[.slice A n cap, .int .i64 bd], .agg #[.slice A' n' cap', .int .i64 bd]] w fun e w' => e = .returned (.bool false) ∧ Below w.heap.size w w' := by
  go_enter Try.func70, Try.ntmps70
  go_wp2
  go_ret
  exact ⟨rfl, bl_alloc (bl_alloc (Below.refl _ _) _) _⟩

set_option maxRecDepth 100000 in
set_option maxHeartbeats 800000 in
theorem specSame_eq (A A' : Option Addr) (n cap cap' : Nat) (bd : Int) (c l c' l' : Nat → Int) (w : World) (hn : n ≤ 1048576) (hr : Rd w w.heap.size A n c l) (hr' : Rd w w.heap.size A' n c' l') :
    Calls Try.prog 70 #[.agg #[.slice A n cap, .int .i64 bd], .agg #[.slice A' n cap', .int .i64 bd]] w fun e w' => e = .returned (.bool (tseq c l c' l' n)) ∧ Below w.heap.size w w' := by
  go_enter Try.func70, Try.ntmps70
  go_wp2
  go_loopw [5] (fun i wr => ∃ k : Nat, k ≤ n ∧ i = .int .i64 k ∧ tseq c l c' l' k = true ∧ wr.cell? ⟨w.heap.size, 0, none⟩ = some (.slice A n cap) ∧ wr.cell? ⟨w.heap.size + 1, 0, none⟩ = some (.slice A' n cap') ∧ Below w.heap.size w wr) (fun i _ => n - (intOf i).toNat)
  case atStart => exact ⟨0, Nat.zero_le _, rfl, rfl, by go_simp, by go_simp, bl_alloc (bl_alloc (Below.refl _ _) _) _⟩
  case round =>
    obtain ⟨k, hk, rfl, heq, hx0, hx1, hb⟩ := hrel
    have Heq := Lib.hid heq
    clear heq
    by_cases hlt : k < n
    · obtain ⟨b, off, rfl, hbl, hc⟩ := (hr.below hb) (by omega)
      obtain ⟨b', off', rfl, hbl', hc'⟩ := (hr'.below hb) (by omega)
      obtain ⟨hc1, hc2⟩ := hc k hlt
      obtain ⟨hc3, hc4⟩ := hc' k hlt
      clear hc hc' hr hr'
      have hlt' : (k : Int) < (n : Int) := by omega
      have hk0 : (0 : Int) ≤ (k : Int) := by omega
      by_cases h1 : c k = c' k
      · by_cases h2 : l k = l' k
        · have Ht := Lib.hid (teq_yes h1 h2)
          go_wp2_with fail
          go_quiet (fail)
          go_wp2
          go_roundw
          case rel => exact ⟨k + 1, by omega, by go_num, tseq_yes Heq.out Ht.out, hx0, hx1, bl_drewN hb _⟩
          case measure => simp [intOf]; omega
        · have Ht := Lib.hid (teq_no2 (c := c k) (c' := c' k) h2)
          go_wp2_with fail
          go_quiet (fail)
          go_wp2
          go_ret
          exact ⟨ret_bool (tseq_no hlt Ht.out).symm, bl_drewN hb _⟩
      · have Ht := Lib.hid (teq_no1 (l := l k) (l' := l' k) h1)
        go_wp2_with fail
        go_quiet (fail)
        go_wp2
        go_ret
        exact ⟨ret_bool (tseq_no hlt Ht.out).symm, bl_drewN hb _⟩
    · have e : k = n := by omega
      subst e
      go_wp2
      go_ret
      exact ⟨ret_bool Heq.out.symm, hb⟩

theorem specSame_any (A A' : Option Addr) (n n' cap cap' : Nat) (bd bd' : Int) (c l c' l' : Nat → Int) (w : World) (hn : n ≤ 1048576) (hr : Rd w w.heap.size A n c l) (hr' : Rd w w.heap.size A' n' c' l') :
    Calls Try.prog 70 #[.agg #[.slice A n cap, .int .i64 bd], .agg #[.slice A' n' cap', .int .i64 bd']] w fun e w' => e = .returned (.bool (same n n' c l c' l' bd bd')) ∧ Below w.heap.size w w' := by
  by_cases hbd : bd = bd'
  · subst hbd
    by_cases h : n = n'
    · subst h
      exact (specSame_eq A A' n cap cap' bd c l c' l' w hn hr hr').mono fun e w' ⟨he, hb⟩ => ⟨by rw [he]; simp [same], hb⟩
    · exact (specSame_len A A' n n' cap cap' bd w (by rw [bne_iff_ne]; omega)).mono fun e w' ⟨he, hb⟩ => ⟨by rw [he, same_no (.inr h)], hb⟩
  · exact (specSame_bd A A' n n' cap cap' bd bd' w (by rw [bne_iff_ne]; exact hbd)).mono fun e w' ⟨he, hb⟩ => ⟨by rw [he, same_no (.inl hbd)], hb⟩
end Go.Proofs.Ytafiikfaeomhpaa
