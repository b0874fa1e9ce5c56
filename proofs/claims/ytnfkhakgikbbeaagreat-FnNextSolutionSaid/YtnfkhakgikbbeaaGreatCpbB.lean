/- The laws' order of two rows of twelve Booleans (no claim of its own). Conditions: as each theorem states. -/
import Derived.Test.YtnfkhakgikbbeaaGreatCnxM
namespace Go.Proofs.YtnfkhakgikbbeaaGreat
open Go.ChangeShapes Go.WideShapes Go.ChangeAt Go.RowKit

set_option maxRecDepth 100000 in
set_option maxHeartbeats 800000 in
theorem cpBefore_any (A A' : Option Addr) (cap cap' : Nat) (a b : Nat → Bool) (w : World) (hr : RdB w w.heap.size A 12 a) (hr' : RdB w w.heap.size A' 12 b) :
    Calls Tryz.prog 19 #[.slice A 12 cap, .slice A' 12 cap'] w fun e w' => e = .returned (.bool (decide (numU a 12 < numU b 12))) ∧ Below w.heap.size w w' := by
  go_enter Tryz.func19, Tryz.ntmps19
  go_wp2
  go_loopw [5] (fun i wr => ∃ k : Nat, k ≤ 12 ∧ (∀ i, i < k → a i = b i) ∧ i = .int .i64 k ∧ Below w.heap.size w wr) (fun i _ => 12 - (intOf i).toNat)
  case atStart => exact ⟨0, Nat.zero_le _, fun i hi => absurd hi (by omega), rfl, Below.refl _ _⟩
  case round =>
    obtain ⟨k, hk, hsa, rfl, hb⟩ := hrel
    have HS := Lib.hid hsa
    clear hsa
    by_cases hlt : k < 12
    · obtain ⟨b0, off, rfl, hbl, hc⟩ := (hr.below hb) (by omega)
      obtain ⟨b', off', rfl, hbl', hc'⟩ := (hr'.below hb) (by omega)
      have hc1 := hc k hlt
      have hc2 := hc' k hlt
      clear hc hc' hr hr'
      have hlt' : (k : Int) < 12 := by omega
      have hk0 : (0 : Int) ≤ (k : Int) := by omega
      by_cases hab : a k = b k
      · rw [hab] at hc1
        go_wp2_with fail
        go_quiet (fail)
        go_wp2
        go_roundw
        case rel => exact ⟨k + 1, by omega, fun i hi => by by_cases e : i = k; (· subst e; exact hab); (· exact HS.out i (by omega)), by go_num, bl_drewN hb _⟩
        case measure => simp [intOf]; omega
      · have HN := Lib.hid (num_before hlt HS.out hab)
        have hx : a k = !b k := by revert hab; cases a k <;> cases b k <;> simp
        rw [hx] at hc1
        clear hab hx HS
        cases hB : b k <;> rw [hB] at hc1 hc2 <;> (have HM := Lib.hid (HN.out.trans hB)) <;> clear HN hB
        · go_wp2_with fail
          go_quiet (fail)
          go_wp2
          go_ret
          exact ⟨by rw [HM.out]; rfl, bl_drewN hb _⟩
        · go_wp2_with fail
          go_quiet (fail)
          go_wp2
          go_ret
          exact ⟨by rw [HM.out]; rfl, bl_drewN hb _⟩
    · have hge : ¬ (k : Int) < 12 := by omega
      have HM := Lib.hid (num_same fun i hi => HS.out i (by omega))
      clear HS hr hr'
      go_wp2
      go_ret
      exact ⟨by rw [HM.out]; rfl, hb⟩
end Go.Proofs.YtnfkhakgikbbeaaGreat
