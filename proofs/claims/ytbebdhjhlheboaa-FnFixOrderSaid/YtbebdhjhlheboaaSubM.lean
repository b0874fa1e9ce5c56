/- Parts of a problem: which indices make one, and what it says (no claim of its own). Conditions: as each theorem states. -/
import Derived.Test.YtbebdhjhlheboaaProB
import Derived.Test.YtbebdhjhlheboaaIntA
namespace Go.Proofs.Ytbebdhjhlheboaa
open Go.ChangeShapes Go.WideShapes Go.ChangeAt Go.RowKit

/-- The index ahead of index i, or -1. -/
def lastK (c : Nat → Int) : Nat → Int
  | 0 => -1
  | i + 1 => c i
def keepAt (c : Nat → Int) (m : Nat) (i : Nat) : Bool := decide (lastK c i < c i) && decide (c i < (m : Int))
/-- The first k numbers are indices of m constraints, in ascending order. -/
def keepB (c : Nat → Int) (m : Nat) : Nat → Bool
  | 0 => true
  | k + 1 => keepB c m k && keepAt c m k
theorem keepAt_iff {c : Nat → Int} {m i : Nat} : keepAt c m i = true ↔ lastK c i < c i ∧ c i < (m : Int) := by simp [keepAt]
theorem keepB_at {c : Nat → Int} {m n k : Nat} (h : keepB c m n = true) (hk : k < n) : keepAt c m k = true := by
  induction n with
  | zero => omega
  | succ n ih =>
    unfold keepB at h
    rw [Bool.and_eq_true] at h
    by_cases e : k = n
    · subst e; exact h.2
    · exact ih h.1 (by omega)
theorem keepB_no {c : Nat → Int} {m n k : Nat} (h : ¬ (lastK c k < c k ∧ c k < (m : Int))) (hk : k < n) : keepB c m n = false := by
  cases hv : keepB c m n with
  | false => rfl
  | true => exact absurd (keepAt_iff.1 (keepB_at hv hk)) h
theorem keepB_yes {c : Nat → Int} {m k : Nat} (h : keepB c m k = true) (h1 : lastK c k < c k ∧ c k < (m : Int)) : keepB c m (k + 1) = true := by
  unfold keepB
  rw [h, keepAt_iff.2 h1]
  rfl
theorem keep_ge {c : Nat → Int} {m n k : Nat} (h : keepB c m n = true) (hk : k < n) : (k : Int) ≤ c k ∧ c k < (m : Int) := by
  induction k with
  | zero =>
    have h1 := keepAt_iff.1 (keepB_at h hk)
    have h2 : (-1 : Int) < c 0 := h1.1
    exact ⟨by omega, h1.2⟩
  | succ k ih =>
    have h1 := keepAt_iff.1 (keepB_at h hk)
    have h2 : c k < c (k + 1) := h1.1
    have h3 := ih (by omega)
    exact ⟨by omega, h1.2⟩
theorem last_ge {c : Nat → Int} {m k : Nat} (h : keepB c m k = true) : -1 ≤ lastK c k := by
  cases k with
  | zero => exact Int.le_refl _
  | succ k =>
    have := (keep_ge h (Nat.lt_succ_self k)).1
    show -1 ≤ c k
    omega
theorem keep_le {c : Nat → Int} {m n : Nat} (h : keepB c m n = true) : n ≤ m := by
  rcases Nat.eq_zero_or_pos n with e | e
  · omega
  · have := keep_ge h (show n - 1 < n by omega)
    omega
/-- Constraint i of the part. -/
def subK (p : Nat → Con) (c : Nat → Int) (i : Nat) : Con := p (c i).toNat
def subOk (n : Nat) (p : Nat → Con) (nk : Nat) (c : Nat → Int) : Bool := probB n p && keepB c n nk
def subN (n : Nat) (p : Nat → Con) (nk : Nat) (c : Nat → Int) : Nat := if subOk n p nk c = true then nk else 0
theorem prob_400 {n : Nat} {p : Nat → Con} (h : probB n p = true) : n ≤ 400 := by
  unfold probB at h
  rw [Bool.and_eq_true] at h
  exact of_decide_eq_true h.2
theorem prob_V {n : Nat} {p : Nat → Con} (h : probB n p = true) : allV p n = true := by
  unfold probB at h
  rw [Bool.and_eq_true] at h
  exact h.1
theorem mono_ab {c l : Nat → Int} {n : Nat} (h : vtB c l n = true) {i : Nat} (hi : i < n) : (i : Int) + 1 ≤ ab (l i) := by
  induction i with
  | zero =>
    have h0 := okAt_lit (vtB_at h hi)
    have := ab_pos h0
    omega
  | succ i ih =>
    have h0 := (okAt_iff.1 (vtB_at h hi)).2.2.2
    have h1 : ab (l i) < ab (l (i + 1)) := h0
    have h2 := ih (by omega)
    omega
theorem valid_le12 {n : Nat} {c l : Nat → Int} {bd : Int} (h : validB n c l bd = true) : n ≤ 12 := by
  unfold validB at h
  rw [Bool.and_eq_true] at h
  rcases Nat.eq_zero_or_pos n with h0 | h0
  · omega
  · have h1 := mono_ab h.1 (show n - 1 < n by omega)
    have h2 := ab_pos (okAt_lit (vtB_at h.1 (show n - 1 < n by omega)))
    omega
theorem sub_ok {n : Nat} {p : Nat → Con} {nk : Nat} {c : Nat → Int} (h : subOk n p nk c = true) : probB n p = true ∧ keepB c n nk = true := by
  unfold subOk at h
  rwa [Bool.and_eq_true] at h
theorem subN_le (n : Nat) (p : Nat → Con) (nk : Nat) (c : Nat → Int) : subN n p nk c ≤ 400 := by
  unfold subN
  split
  · rename_i h
    obtain ⟨h1, h2⟩ := sub_ok h
    have := keep_le h2
    have := prob_400 h1
    omega
  · omega
theorem sub_12 {n : Nat} {p : Nat → Con} {nk : Nat} {c : Nat → Int} {i : Nat} (hi : i < subN n p nk c) : (subK p c i).n ≤ 12 := by
  unfold subN at hi
  split at hi
  · rename_i h
    obtain ⟨h1, h2⟩ := sub_ok h
    have h3 := keep_ge h2 hi
    have h4 : validB (p (c i).toNat).n (p (c i).toNat).c (p (c i).toNat).l (p (c i).toNat).bd = true := allV_at (prob_V h1) (show (c i).toNat < n by omega)
    exact valid_le12 h4
  · omega
theorem sub_all (n : Nat) (p : Nat → Con) (nk : Nat) (c : Nat → Int) (i : Nat) (hi : i < subN n p nk c) : (subK p c i).n ≤ 1048576 := Nat.le_trans (sub_12 hi) (by omega)
theorem tot_12 {q : Nat → Con} {k : Nat} (h : ∀ i, i < k → (q i).n ≤ 12) : tot q k ≤ 12 * k := by
  induction k with
  | zero => exact Nat.le_refl _
  | succ k ih =>
    have h1 := ih fun i hi => h i (by omega)
    have h2 := h k (by omega)
    show tot q k + (q k).n ≤ _
    omega
theorem sub_tot (n : Nat) (p : Nat → Con) (nk : Nat) (c : Nat → Int) : subN n p nk c + 2 * tot (subK p c) (subN n p nk c) ≤ 500000 := by
  have h1 := subN_le n p nk c
  have h2 := tot_12 (q := subK p c) (k := subN n p nk c) fun i hi => sub_12 hi
  omega
theorem subN_yes {n : Nat} {p : Nat → Con} {nk : Nat} {c : Nat → Int} (h1 : probB n p = true) (h2 : keepB c n nk = true) : subOk n p nk c = true ∧ subN n p nk c = nk := by
  have h : subOk n p nk c = true := by unfold subOk; rw [h1, h2]; rfl
  exact ⟨h, if_pos h⟩
theorem subN_no {n : Nat} {p : Nat → Con} {nk : Nat} {c : Nat → Int} (h : probB n p = false ∨ keepB c n nk = false) : subOk n p nk c = false ∧ subN n p nk c = 0 := by
  have h : subOk n p nk c = false := by
    unfold subOk
    rcases h with h | h <;> rw [h]
    · rfl
    · rw [Bool.and_false]
  exact ⟨h, if_neg (by rw [h]; exact Bool.false_ne_true)⟩

/-- A slice of constraints as RdP reads it, whose lists of terms have room only where they have a block. -/
def RdPc (w : World) (B : Nat) (A : Option Addr) (n : Nat) (p : Nat → Con) : Prop :=
  0 < n → ∃ b off, A = some ⟨b, off, none⟩ ∧ b < B ∧ ∀ i, i < n → ∃ Ai ci, w.cell? ⟨b, off + i * 2, none⟩ = some (.slice Ai (p i).n ci) ∧ w.cell? ⟨b, off + i * 2 + 1, none⟩ = some (.int .i64 (p i).bd) ∧ Rd w B Ai (p i).n (p i).c (p i).l ∧ (Ai = none → ci = 0)
section
variable {w w' : World} {B B' : Nat} {A : Option Addr} {n : Nat} {p : Nat → Con}
theorem RdPc.rd (h : RdPc w B A n p) : RdP w B A n p := fun hn => by
  obtain ⟨b, off, e, hlt, hc⟩ := h hn
  refine ⟨b, off, e, hlt, fun i hi => ?_⟩
  obtain ⟨Ai, ci, h1, h2, h3, _⟩ := hc i hi
  exact ⟨Ai, ci, h1, h2, h3⟩
theorem RdPc.below (h : RdPc w B A n p) (hb : Below B w w') : RdPc w' B A n p := fun hn => by
  obtain ⟨b, off, e, hlt, hc⟩ := h hn
  refine ⟨b, off, e, hlt, fun i hi => ?_⟩
  obtain ⟨Ai, ci, h1, h2, h3, h4⟩ := hc i hi
  exact ⟨Ai, ci, (hb.cell (p := ⟨b, _, none⟩) hlt).trans h1, (hb.cell (p := ⟨b, _, none⟩) hlt).trans h2, h3.below hb, h4⟩
theorem RdPc.more (h : RdPc w B A n p) (hB : B ≤ B') : RdPc w B' A n p := fun hn => by
  obtain ⟨b, off, e, hlt, hc⟩ := h hn
  refine ⟨b, off, e, by omega, fun i hi => ?_⟩
  obtain ⟨Ai, ci, h1, h2, h3, h4⟩ := hc i hi
  exact ⟨Ai, ci, h1, h2, h3.more hB, h4⟩
theorem RdPc.later (h : RdPc w w.heap.size A n p) (hb : Below w.heap.size w w') : RdPc w' w'.heap.size A n p := (h.below hb).more hb.size
theorem OwnP.rdc {G : Nat} (h : OwnP w G n n p) : RdPc w w.heap.size (some ⟨G, 0, none⟩) n p := fun _ => by
  have hlt := h.lt
  obtain ⟨cs, hh, h1, h2⟩ := h
  refine ⟨G, 0, rfl, hlt, fun i hi => ?_⟩
  obtain ⟨g, hg, a, b, c⟩ := h2 i hi
  rw [Nat.zero_add]
  exact ⟨_, _, (cell_of_row w G _ cs _ _ hh).trans a, (cell_of_row w G _ cs _ _ hh).trans b, c.rdAt, fun e => by cases e⟩
end
end Go.Proofs.Ytbebdhjhlheboaa
