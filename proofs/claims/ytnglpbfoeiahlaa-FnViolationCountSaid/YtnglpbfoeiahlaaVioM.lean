/- Violations of parts add up (no claim of its own). Conditions: as each theorem states. -/
import Derived.Test.YtnglpbfoeiahlaaVioA
import Derived.Test.YtnglpbfoeiahlaaDrwT
namespace Go.Proofs.Ytnglpbfoeiahlaa
open Go.ChangeShapes Go.WideShapes Go.ChangeAt Go.RowKit

/-- The constraints from the k-th on. -/
def offP (p : Nat → Con) (k i : Nat) : Con := p (k + i)
theorem badN_cat (p : Nat → Con) (v : Nat → Bool) (k m : Nat) : badN p v (k + m) = badN p v k + badN (offP p k) v m := by
  induction m with
  | zero => rfl
  | succ m ih =>
    show badN p v (k + m) + _ = badN p v k + (badN (offP p k) v m + _)
    rw [ih, Nat.add_assoc]
    rfl
theorem allV_pre {p : Nat → Con} {n k : Nat} (h : allV p n = true) (hk : k ≤ n) : allV p k = true := by
  induction k with
  | zero => rfl
  | succ k ih => exact allV_yes (ih (by omega)) (allV_at h (by omega))
theorem allV_off {p : Nat → Con} {n k m : Nat} (h : allV p n = true) (hk : k + m ≤ n) : allV (offP p k) m = true := by
  induction m with
  | zero => rfl
  | succ m ih =>
    have h2 : validB (p (k + m)).n (p (k + m)).c (p (k + m)).l (p (k + m)).bd = true := allV_at h (by omega)
    exact allV_yes (ih (by omega)) h2
theorem prob_pre {p : Nat → Con} {n k : Nat} (h : probB n p = true) (hk : k ≤ n) : probB k p = true := by
  unfold probB at h ⊢
  rw [Bool.and_eq_true] at h ⊢
  have h2 := of_decide_eq_true h.2
  exact ⟨allV_pre h.1 hk, decide_eq_true (by omega)⟩
theorem prob_off {p : Nat → Con} {n k m : Nat} (h : probB n p = true) (hk : k + m ≤ n) : probB m (offP p k) = true := by
  unfold probB at h ⊢
  rw [Bool.and_eq_true] at h ⊢
  have h2 := of_decide_eq_true h.2
  exact ⟨allV_off h.1 hk, decide_eq_true (by omega)⟩
theorem allE_bad (p : Nat → Con) (v : Nat → Bool) (n : Nat) : allE p v n = decide (badN p v n = 0) := by
  induction n with
  | zero => rfl
  | succ n ih =>
    unfold allE badN
    rw [ih]
    cases evalV (p n).n (p n).c (p n).l (p n).bd 12 v with
    | true => rw [Bool.and_true, if_pos rfl, Nat.add_zero]
    | false => rw [Bool.and_false, if_neg Bool.false_ne_true]; exact (decide_eq_false (by omega)).symm
/-- Parts of a slice of constraints. -/
theorem RdP.pre {w : World} {B n k : Nat} {A : Option Addr} {p : Nat → Con} (h : RdP w B A n p) (hk : k ≤ n) : RdP w B A k p := fun h0 => by
  obtain ⟨b, off, e, hlt, hc⟩ := h (by omega)
  exact ⟨b, off, e, hlt, fun i hi => hc i (by omega)⟩
theorem RdP.off {w : World} {B n k m b : Nat} {p : Nat → Con} (h : RdP w B (some ⟨b, 0, none⟩) n p) (hk : k + m ≤ n) {o : Nat} (ho : m = 0 ∨ o = k * 2) : RdP w B (some ⟨b, o, none⟩) m (offP p k) := fun h0 => by
  obtain ⟨b', off, e, hlt, hc⟩ := h (by omega)
  cases e
  refine ⟨b, o, rfl, hlt, fun i hi => ?_⟩
  obtain ⟨Ai, ci, h1, h2, h3⟩ := hc (k + i) (by omega)
  refine ⟨Ai, ci, ?_, ?_, h3⟩
  · rw [show o + i * 2 = 0 + (k + i) * 2 by omega]; exact h1
  · rw [show o + i * 2 + 1 = 0 + (k + i) * 2 + 1 by omega]; exact h2
theorem PX.roomy {w : World} {lo el N k cap : Nat} {A : Option Addr} {xs : List Value} (h : PX w lo el N (.slice A k cap) k xs) : (A = none ∧ k = 0 ∧ cap = 0) ∨ ∃ g, A = some ⟨g, 0, none⟩ ∧ k ≤ cap ∧ cap ≤ maxLen := by
  rcases h.own.2 with ⟨e, h0⟩ | ⟨g, cap0, cur, e, _, _, h1, h2, _⟩
  · cases e
    exact .inl ⟨rfl, h0, rfl⟩
  · cases e
    exact .inr ⟨g, rfl, h1, h2⟩
end Go.Proofs.Ytnglpbfoeiahlaa
