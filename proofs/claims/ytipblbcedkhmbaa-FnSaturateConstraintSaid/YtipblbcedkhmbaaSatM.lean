/- Arithmetic of the law of saturation (no claim of its own). Conditions: as each theorem states. -/
import Derived.Test.YtipblbcedkhmbaaRulM
import Derived.Test.YtipblbcedkhmbaaSatA
namespace Go.Proofs.Ytipblbcedkhmbaa
open Go.ChangeShapes Go.WideShapes Go.ChangeAt Go.RowKit

theorem minC_twice (c : Nat → Int) (bd : Int) (i : Nat) : minC (minC c bd) bd i = minC c bd i := by
  unfold minC
  by_cases h : bd < c i
  · rw [if_pos h, if_neg (by omega)]
  · rw [if_neg h, if_neg h]
theorem satN_twice (n : Nat) (bd : Int) : satN (satN n bd) bd = satN n bd := by
  unfold satN
  split <;> rfl
theorem sB_sat {n : Nat} {c l : Nat → Int} {bd : Int} {P : Int → Bool} (hc : ∀ i, i < n → 1 ≤ c i ∧ c i ≤ 1000) (hb : 0 ≤ bd) : sB (minC c bd) l P n ≤ sB c l P n ∧ 0 ≤ sB (minC c bd) l P n ∧ (sB (minC c bd) l P n = sB c l P n ∨ bd ≤ sB (minC c bd) l P n) := by
  induction n with
  | zero => simp [sB]
  | succ n ih =>
    obtain ⟨h1, h0, h2⟩ := ih fun i hi => hc i (by omega)
    have hn := hc n (by omega)
    have hm : minC c bd n = if bd < c n then bd else c n := rfl
    cases hp : P (l n) with
    | true =>
      rw [sB_yes (c := c) hp, sB_yes (c := minC c bd) hp, hm]
      split <;> omega
    | false =>
      rw [sB_no (c := c) hp, sB_no (c := minC c bd) hp]
      exact ⟨h1, h0, h2⟩
/-- Saturation is an equivalence, and saturates once for all. -/
theorem sat_law {n : Nat} {c l : Nat → Int} {bd : Int} (hn : n ≤ 1048576) (h : infB (validB n c l bd) (satN n bd) (minC c bd) l bd = true) :
    validB n c l bd = true ∧ validB (satN n bd) (minC c bd) l bd = true ∧ infB (validB (satN n bd) (minC c bd) l bd) (satN (satN n bd) bd) (minC (minC c bd) bd) l bd = true ∧ ∀ nv v, evalV (satN n bd) (minC c bd) l bd nv v = evalV n c l bd nv v := by
  obtain ⟨hv0, hv⟩ := infB_iff.1 h
  have hb := bound_of hv0
  refine ⟨hv0, hv, infB_iff.2 ⟨hv, satValid hv⟩, fun nv v => ?_⟩
  by_cases e : nv = 12
  · subst e
    rw [evalV_sB (by unfold satN; split <;> omega) hv, evalV_sB hn hv0, decide_eq_decide]
    obtain ⟨h1, h0, h2⟩ := sB_sat (l := l) (P := trueP v) (coef_of hv0) hb.1
    unfold satN
    split
    · rename_i e0
      have := (sB_le (l := l) (P := trueP v) (coef_of hv0)).1
      subst e0
      simp only [sB, Int.le_refl, true_iff]
      exact this
    · omega
  · rw [evalV_len e, evalV_len e]
end Go.Proofs.Ytipblbcedkhmbaa
