/- The laws' comparison of two problems that say the same (no claim of its own). Conditions: as each theorem states. -/
import Derived.Test.YtbebdhjhlheboaaProB
import Derived.Test.YtbebdhjhlheboaaSmeA
namespace Go.Proofs.Ytbebdhjhlheboaa
open Go.ChangeShapes Go.WideShapes Go.ChangeAt Go.RowKit

theorem same_refl9 (n : Nat) (c l : Nat → Int) (bd : Int) : same n n c l c l bd bd = true := by simp [same, tseq_refl]

set_option maxRecDepth 100000 in
set_option maxHeartbeats 1600000 in
theorem cpProblem_same (A A' : Option Addr) (n cap cap' : Nat) (p : Nat → Con) (w : World) (hn : n ≤ 1048576) (hn' : ∀ i, i < n → (p i).n ≤ 1048576) (hr : RdP w w.heap.size A n p) (hr' : RdP w w.heap.size A' n p) :
    Calls Try.prog 25 #[.slice A n cap, .slice A' n cap'] w fun e w' => e = .returned (.bool true) ∧ Below w.heap.size w w' := by
  have HR := Lib.hid hr
  have HR' := Lib.hid hr'
  have HN := Lib.hid hn'
  clear hr hr' hn'
  go_enter Try.func25, Try.ntmps25
  go_wp2
  go_loopw [5] (fun i wr => ∃ k : Nat, k ≤ n ∧ i = .int .i64 k ∧ Below w.heap.size w wr) (fun i _ => n - (intOf i).toNat)
  case atStart => exact ⟨0, Nat.zero_le _, rfl, Below.refl _ _⟩
  case round =>
    obtain ⟨k, hk, rfl, hb⟩ := hrel
    have HB := Lib.hid hb
    clear hb
    by_cases hlt : k < n
    · obtain ⟨b, off, rfl, hbl, hc⟩ := (HR.out.later HB.out) (by omega)
      obtain ⟨b', off', rfl, hbl', hc'⟩ := (HR'.out.later HB.out) (by omega)
      obtain ⟨Ai, ci, hx0, hx1, hx2⟩ := hc k hlt
      obtain ⟨Aj, cj, hy0, hy1, hy2⟩ := hc' k hlt
      have HX := Lib.hid (hx2.later ((Below.refl _ _).drew))
      have HY := Lib.hid (hy2.later ((Below.refl _ _).drew))
      have hq := HN.out k hlt
      have Hs := Lib.hid (same_refl9 (p k).n (p k).c (p k).l (p k).bd)
      have hltI : (k : Int) < (n : Int) := by omega
      have hk0 : (0 : Int) ≤ (k : Int) := by omega
      clear hc hc' hx2 hy2
      go_wp2_with fail
      go_still_tail 8, (by kernel_rfl)
      change wpList _ _ _ _ _ wr.drew
      go_wp2_with (go_at_call 60; refine (implSame_any _ _ _ _ _ _ _ _ _ _ _ _ _ hq HX.out HY.out).mono ?_; rintro e w' ⟨rfl, hb1⟩; rw [Hs.out])
      go_roundw
      case rel => exact ⟨k + 1, by omega, by go_num, bl_trans HB.out.drew hb1⟩
      case measure => simp [intOf]; omega
    · have e : k = n := by omega
      subst e
      go_wp2
      go_ret
      exact ⟨rfl, HB.out⟩
end Go.Proofs.Ytbebdhjhlheboaa
