/- The first solution that is not before some values is the least (no claim of its own). Conditions: as each theorem states. -/
import Derived.Test.YtnfkhakgikbbeaaSrcU
namespace Go.Proofs.Ytnfkhakgikbbeaa
open Go.ChangeShapes Go.WideShapes Go.ChangeAt Go.RowKit

theorem trueP_cg12 {u u' : Nat → Bool} (h : ∀ i, i < 12 → u i = u' i) {z : Int} (hz : litB z = true) : trueP u z = trueP u' z := by
  obtain ⟨h0, h1, h2⟩ := litB_iff.1 hz
  unfold trueP
  split
  · exact h _ (by omega)
  · rw [h _ (by omega)]
theorem allE_cg12 {p : Nat → Con} {m : Nat} (hok : ∀ i, i < m → okC (p i) ∧ (p i).n ≤ 1048576) {u u' : Nat → Bool} (h : ∀ i, i < 12 → u i = u' i) (ha : allE p u m = true) : allE p u' m = true := by
  refine allE_of fun i hi => ?_
  have h1 := allE_at ha hi
  have hv : validB (p i).n (p i).c (p i).l (p i).bd = true := (hok i hi).1
  rw [evalV_yes hv, decide_eq_true_eq] at h1 ⊢
  have e1 : evW (p i).c (p i).l u (p i).n = sB (p i).c (p i).l (trueP u) (p i).n := sumW_sB (hok i hi).2 (coef_of hv)
  have e2 : evW (p i).c (p i).l u' (p i).n = sB (p i).c (p i).l (trueP u') (p i).n := sumW_sB (hok i hi).2 (coef_of hv)
  rw [e1] at h1
  rw [e2, ← sB_congrL (p i).n fun k hk => trueP_cg12 h (litAt hv hk)]
  exact h1

theorem num_step (u : Nat → Bool) (j : Nat) (hj : j < 12) : numU u 12 / 2 ^ (11 - j) = 2 * numU u j + (if u j then 1 else 0) := by
  have h := numU_div u (j + 1) (11 - j)
  rw [show j + 1 + (11 - j) = 12 by omega] at h
  rw [h]
  rfl
theorem num_before {a b : Nat → Bool} {j : Nat} (hj : j < 12) (he : ∀ i, i < j → a i = b i) (hd : a j ≠ b j) : decide (numU a 12 < numU b 12) = b j := by
  have ha := num_step a j hj
  have hb := num_step b j hj
  rw [numU_congr j he] at ha
  cases hB : b j with
  | true =>
    have hA : a j = false := by cases h : a j with | false => rfl | true => exact absurd (h.trans hB.symm) hd
    rw [hA] at ha; rw [hB] at hb
    rw [decide_eq_true_eq]
    refine Nat.lt_of_not_le fun hc => ?_
    have := Nat.div_le_div_right (c := 2 ^ (11 - j)) hc
    simp at ha hb
    omega
  | false =>
    have hA : a j = true := by cases h : a j with | true => rfl | false => exact absurd (h.trans hB.symm) hd
    rw [hA] at ha; rw [hB] at hb
    rw [decide_eq_false_iff_not]
    intro hc
    have := Nat.div_le_div_right (c := 2 ^ (11 - j)) (Nat.le_of_lt hc)
    simp at ha hb
    omega
theorem num_same {a b : Nat → Bool} (he : ∀ i, i < 12 → a i = b i) : decide (numU a 12 < numU b 12) = false := by
  rw [numU_congr 12 he]; simp

theorem head_least {q : Nat → Bool} {n k : Nat} (hk : k < n) (hq : q k = true) : ∃ j, ((List.range n).filter q).head? = some j ∧ j ≤ k ∧ q j = true := by
  have hm : k ∈ (List.range n).filter q := List.mem_filter.2 ⟨List.mem_range.2 hk, hq⟩
  have hp : ((List.range n).filter q).Pairwise (· < ·) := List.Pairwise.filter _ List.pairwise_lt_range
  cases hl : (List.range n).filter q with
  | nil => rw [hl] at hm; cases hm
  | cons j t =>
    rw [hl] at hm hp
    have hj : j ∈ (List.range n).filter q := by rw [hl]; exact List.mem_cons_self
    refine ⟨j, rfl, ?_, (List.mem_filter.1 hj).2⟩
    rcases List.mem_cons.1 hm with e | h
    · omega
    · exact Nat.le_of_lt ((List.pairwise_cons.1 hp).1 k h)
section
variable {m nv : Nat} {p : Nat → Con} {v u : Nat → Bool}
theorem nx_least (hv : probB m p = true) (hok : ∀ i, i < m → okC (p i) ∧ (p i).n ≤ 1048576) (ha : allE p u m = true) (hle : ¬ numU u 12 < numU v 12) : nxOk m p 12 v = true ∧ ¬ numU u 12 < numU (nxV m p v) 12 := by
  have hk : numU u 12 < 4096 := numU_lt u 12
  have hq : qS p m (numU u 12) = true := allE_cg12 hok (fun i hi => (valN_num u hi).symm) ha
  obtain ⟨j, hj, hjk, hjq⟩ := head_least (q := fun k => qS p m k && decide (numU v 12 ≤ k)) hk (by rw [hq, Bool.true_and, decide_eq_true_eq]; omega)
  have hn : (nxL m p v).head? = some j := hj
  refine ⟨by unfold nxOk; rw [hv, hn]; rfl, ?_⟩
  unfold nxV
  rw [hn]
  have := num_valN (k := j) (by omega) 12 (by omega)
  simp at this ⊢
  omega
theorem nx_good (h : nxOk m p nv v = true) : nxN m p nv v = 12 ∧ allE p (nxV m p v) m = true ∧ ¬ numU (nxV m p v) 12 < numU v 12 := by
  refine ⟨by unfold nxN; rw [if_pos h], ?_⟩
  unfold nxOk at h
  rw [Bool.and_eq_true, Bool.and_eq_true] at h
  obtain ⟨j, hj⟩ := Option.isSome_iff_exists.1 h.2.2
  have hm : j ∈ nxL m p v := List.mem_of_mem_head? (by rw [hj]; rfl)
  obtain ⟨h1, h2⟩ := List.mem_filter.1 hm
  rw [Bool.and_eq_true, decide_eq_true_eq] at h2
  have hlt := List.mem_range.1 h1
  unfold nxV
  rw [hj]
  refine ⟨h2.1, ?_⟩
  have := num_valN (k := j) hlt 12 (by omega)
  simp at this ⊢
  omega
end
end Go.Proofs.Ytnfkhakgikbbeaa
