/- A constraint whose slack is negative has no extension that satisfies it: plain facts (no claim of its own). Conditions: as each theorem states. -/
import Derived.Test.YtfgmkaajcbmlmaaSlkC
import Derived.Test.YtfgmkaajcbmlmaaExtA
import Derived.Test.YtfgmkaajcbmlmaaEvaB
namespace Go.Proofs.Ytfgmkaajcbmlmaa
open Go.ChangeShapes Go.WideShapes Go.ChangeAt Go.RowKit Go.Shelf

theorem agT_at {v : Nat → Int} {u : Nat → Bool} {n k : Nat} (h : agT v u n = true) (hk : k < n) : agP (v k) (u k) = true := by
  cases hq : agP (v k) (u k) with
  | true => rfl
  | false => rw [agT_no hk hq] at h; cases h
theorem true_nf {v : Nat → Int} {u : Nat → Bool} {l : Int} (hl : litB l = true) (hv : ∀ i, i < 12 → -1 ≤ v i ∧ v i ≤ 1) (h : agT v u 12 = true) (ht : trueP u l = true) : nfP v l = true := by
  obtain ⟨h0, h1, h2⟩ := litB_iff.1 hl
  unfold nfP stV
  rw [decide_eq_true_eq]
  unfold trueP at ht
  by_cases hp : 0 < l
  · rw [if_pos hp] at ht ⊢
    have h3 := agT_at h (show (l - 1).toNat < 12 by omega)
    have h4 := hv (l - 1).toNat (by omega)
    rw [ht] at h3
    have h5 : v (l - 1).toNat ≠ -1 := by
      intro e
      rw [e] at h3
      exact absurd h3 (by decide)
    omega
  · rw [if_neg hp] at ht ⊢
    have h3 := agT_at h (show (-l - 1).toNat < 12 by omega)
    have h4 := hv (-l - 1).toNat (by omega)
    have ht' : u (-l - 1).toNat = false := by simpa using ht
    rw [ht'] at h3
    have h5 : v (-l - 1).toNat ≠ 1 := by
      intro e
      rw [e] at h3
      exact absurd h3 (by decide)
    omega
theorem sB_mono {c l : Nat → Int} {P Q : Int → Bool} {n : Nat} (hc : ∀ i, i < n → 1 ≤ c i ∧ c i ≤ 1000) (h : ∀ i, i < n → P (l i) = true → Q (l i) = true) : sB c l P n ≤ sB c l Q n := by
  induction n with
  | zero => exact Int.le_refl _
  | succ n ih =>
    have h1 := ih (fun i hi => hc i (by omega)) (fun i hi => h i (by omega))
    have h2 := hc n (by omega)
    cases hp : P (l n) with
    | true => rw [sB_yes hp, sB_yes (h n (by omega) hp)]; omega
    | false =>
      rw [sB_no hp]
      cases hq : Q (l n) with
      | true => rw [sB_yes hq]; omega
      | false => rw [sB_no hq]; exact h1
/-- Negative slack is a conflict. -/
theorem slack_conflict {n : Nat} {c l : Nat → Int} {bd : Int} {np : Nat} {v : Nat → Int} {nv : Nat} {u : Nat → Bool} (hn : n ≤ 1048576) (hneg : slk n c l bd v < 0) (hext : extB np v nv u = true) (hev : evalV n c l bd nv u = true) : False := by
  unfold extB at hext
  rw [Bool.and_eq_true, Bool.and_eq_true] at hext
  obtain ⟨hp, h12, hag⟩ := hext
  obtain ⟨_, hv⟩ := pvB_iff.1 hp
  unfold evalV at hev
  rw [Bool.and_eq_true, Bool.and_eq_true] at hev
  obtain ⟨hval, _, hle⟩ := hev
  rw [decide_eq_true_eq] at hle
  unfold evW at hle
  rw [sumW_sB hn (coef_of hval)] at hle
  have := sB_mono (c := c) (l := l) (P := trueP u) (Q := nfP v) (coef_of hval) (fun i hi ht => true_nf (litAt hval hi) hv hag ht)
  unfold slk at hneg
  omega
end Go.Proofs.Ytfgmkaajcbmlmaa
