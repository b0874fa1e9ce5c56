/- Contracts of the helpers over slices of constraints of the exact laws (no claim of its own). Conditions: as each theorem states. -/
import Derived.Test.YthjcbaccoogloaaComA
namespace Go.Proofs.Ythjcbaccoogloaa
open Go.ChangeShapes Go.WideShapes Go.ChangeAt Go.RowKit

/-- What a constraint says. -/
structure Con where
  n : Nat
  bd : Int
  c : Nat → Int
  l : Nat → Int

/-- A slice of constraints: element i says what p i says. -/
def RdP (w : World) (B : Nat) (A : Option Addr) (n : Nat) (p : Nat → Con) : Prop :=
  0 < n → ∃ b off, A = some ⟨b, off, none⟩ ∧ b < B ∧ ∀ i, i < n → ∃ Ai ci, w.cell? ⟨b, off + i * 2, none⟩ = some (.slice Ai (p i).n ci) ∧ w.cell? ⟨b, off + i * 2 + 1, none⟩ = some (.int .i64 (p i).bd) ∧ Rd w B Ai (p i).n (p i).c (p i).l
theorem RdP.below {w w' : World} {B : Nat} {A : Option Addr} {n : Nat} {p : Nat → Con} (h : RdP w B A n p) (hb : Below B w w') : RdP w' B A n p := fun hn => by
  obtain ⟨b, off, e, hlt, hc⟩ := h hn
  refine ⟨b, off, e, hlt, fun i hi => ?_⟩
  obtain ⟨Ai, ci, h1, h2, h3⟩ := hc i hi
  exact ⟨Ai, ci, (hb.cell (p := ⟨b, _, none⟩) hlt).trans h1, (hb.cell (p := ⟨b, _, none⟩) hlt).trans h2, h3.below hb⟩
theorem RdP.more {w : World} {B B' : Nat} {A : Option Addr} {n : Nat} {p : Nat → Con} (h : RdP w B A n p) (hB : B ≤ B') : RdP w B' A n p := fun hn => by
  obtain ⟨b, off, e, hlt, hc⟩ := h hn
  refine ⟨b, off, e, by omega, fun i hi => ?_⟩
  obtain ⟨Ai, ci, h1, h2, h3⟩ := hc i hi
  exact ⟨Ai, ci, h1, h2, h3.more hB⟩
theorem RdP.later {w w' : World} {A : Option Addr} {n : Nat} {p : Nat → Con} (h : RdP w w.heap.size A n p) (hb : Below w.heap.size w w') : RdP w' w'.heap.size A n p := (h.below hb).more hb.size

/-- How many terms the first k constraints have. -/
def tot (p : Nat → Con) : Nat → Nat
  | 0 => 0
  | k + 1 => tot p k + (p k).n
theorem tot_le (p : Nat → Con) {k n : Nat} (h : k ≤ n) : tot p k ≤ tot p n := by
  induction n with
  | zero =>
    obtain rfl : k = 0 := by omega
    exact Nat.le_refl _
  | succ n ih =>
    by_cases e : k = n + 1
    · subst e; exact Nat.le_refl _
    · have := ih (by omega)
      show tot p k ≤ tot p n + (p n).n
      omega
theorem tot_at (p : Nat → Con) {k n : Nat} (h : k < n) : tot p k + (p k).n ≤ tot p n := tot_le p (show k + 1 ≤ n from h)

section
variable {w w' : World} {G n k : Nat} {p : Nat → Con}
end

/-- The first k constraints are valid. -/
def allV (p : Nat → Con) : Nat → Bool
  | 0 => true
  | k + 1 => allV p k && validB (p k).n (p k).c (p k).l (p k).bd
/-- Whether a list of constraints is a problem. -/
def probB (n : Nat) (p : Nat → Con) : Bool := allV p n && decide (n ≤ 400)
theorem allV_at {p : Nat → Con} {n k : Nat} (h : allV p n = true) (hk : k < n) : validB (p k).n (p k).c (p k).l (p k).bd = true := by
  induction n with
  | zero => omega
  | succ n ih =>
    unfold allV at h
    rw [Bool.and_eq_true] at h
    by_cases e : k = n
    · subst e; exact h.2
    · exact ih h.1 (by omega)
theorem allV_no {p : Nat → Con} {n k : Nat} (h : validB (p k).n (p k).c (p k).l (p k).bd = false) (hk : k < n) : allV p n = false := by
  cases hv : allV p n with
  | false => rfl
  | true => rw [allV_at hv hk] at h; cases h
theorem allV_yes {p : Nat → Con} {k : Nat} (h : allV p k = true) (h1 : validB (p k).n (p k).c (p k).l (p k).bd = true) : allV p (k + 1) = true := by
  unfold allV
  rw [h, h1]
  rfl
end Go.Proofs.Ythjcbaccoogloaa
