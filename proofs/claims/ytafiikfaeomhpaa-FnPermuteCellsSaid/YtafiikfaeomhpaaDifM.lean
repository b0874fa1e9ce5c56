/- Whether the numbers of a row are different: by sorting and compacting, and one by one (no claim of its own). Conditions: as each theorem states. -/
import Derived.Test.YtafiikfaeomhpaaVlsA
import Derived.Lib.SlicesCompact
namespace Go.Proofs.Ytafiikfaeomhpaa
open Go.ChangeShapes Go.WideShapes Go.ChangeAt Go.RowKit

/-- A row, sorted. -/
def srt (v : Nat → Int) (n : Nat) : List Int := (vlst v n).mergeSort fun x y => decide (x ≤ y)
theorem srt_length (v : Nat → Int) (n : Nat) : (srt v n).length = n := (List.length_mergeSort _).trans (vlst_length v n)
theorem srt_perm (v : Nat → Int) (n : Nat) : (srt v n).Perm (vlst v n) := List.mergeSort_perm _ _
theorem srt_sorted (v : Nat → Int) (n : Nat) : (srt v n).Pairwise (fun x y => x ≤ y) :=
  (List.pairwise_mergeSort (fun a b c h1 h2 => by simp at h1 h2 ⊢; omega) (fun a b => by simp; omega) (vlst v n)).imp (fun {a b} h => by simpa using h)
theorem prE_iff {e : Nat → Bool} {n : Nat} : prE e n = true ↔ ∀ i, i < n → e i = true := by
  refine ⟨fun h i hi => prE_at h hi, fun h => ?_⟩
  induction n with
  | zero => rfl
  | succ n ih => exact prE_yes (ih fun i hi => h i (by omega)) (h n (by omega))
theorem mem_vlst {v : Nat → Int} {n : Nat} {x : Int} : x ∈ vlst v n ↔ ∃ i, i < n ∧ v i = x := by
  induction n with
  | zero => exact ⟨fun h => (by cases h), fun ⟨i, h, _⟩ => (by omega)⟩
  | succ n ih =>
    show x ∈ vlst v n ++ [v n] ↔ _
    rw [List.mem_append, ih, List.mem_singleton]
    constructor
    · rintro (⟨i, hi, h⟩ | h)
      · exact ⟨i, by omega, h⟩
      · exact ⟨n, by omega, h.symm⟩
    · rintro ⟨i, hi, h⟩
      by_cases e : i = n
      · subst e; exact .inr h.symm
      · exact .inl ⟨i, by omega, h⟩
theorem vlst_nodup {v : Nat → Int} {n : Nat} : (vlst v n).Nodup ↔ prE (newB v) n = true := by
  induction n with
  | zero => exact ⟨fun _ => rfl, fun _ => List.nodup_nil⟩
  | succ n ih =>
    have e1 : (vlst v n ++ [v n]).Nodup ↔ (vlst v n).Nodup ∧ ¬ v n ∈ vlst v n := by
      rw [List.nodup_append]
      constructor
      · rintro ⟨h1, _, h3⟩
        exact ⟨h1, fun h => h3 _ h _ (List.mem_singleton.2 rfl) rfl⟩
      · rintro ⟨h1, h2⟩
        exact ⟨h1, by simp, fun a ha b hb e => h2 (by rw [List.mem_singleton] at hb; rw [← hb, ← e]; exact ha)⟩
    show (vlst v n ++ [v n]).Nodup ↔ (prE (newB v) n && newB v n) = true
    rw [e1, ih, Bool.and_eq_true]
    have e2 : newB v n = true ↔ ¬ v n ∈ vlst v n := by
      unfold newB
      rw [prE_iff, mem_vlst]
      constructor
      · rintro h ⟨i, hi, he⟩
        have := h i hi
        simp [he] at this
      · intro h i hi
        simp only [bne_iff_ne]
        exact fun he => h ⟨i, hi, he⟩
    rw [e2]
theorem keeps_nodup {s : List Int} (hs : s.Pairwise (fun x y => x ≤ y)) : (∀ j, j < s.length → Go.Lib.keeps s.toArray j = true) ↔ s.Nodup := by
  have hg : ∀ (i : Nat) (h : i < s.length), s.toArray[i]! = s[i] := fun i h => by
    rw [getElem!_pos _ i (by simpa using h)]
    simp
  rw [List.pairwise_iff_getElem] at hs
  constructor
  · intro h
    show s.Pairwise (fun x y => x ≠ y)
    rw [List.pairwise_iff_getElem]
    intro i j hi hj hij e
    have hk := h j hj
    have hj0 : ¬ j = 0 := by omega
    simp only [Go.Lib.keeps, decide_eq_true_eq] at hk
    rcases hk with hk | hk
    · exact hj0 hk
    · rw [hg j hj, hg (j - 1) (by omega)] at hk
      have h1 : s[i] ≤ s[j - 1] := by
        by_cases e1 : i = j - 1
        · subst e1; exact Int.le_refl _
        · exact hs i (j - 1) hi (by omega) (by omega)
      have h2 : s[j - 1] ≤ s[j] := hs (j - 1) j (by omega) hj (by omega)
      omega
  · intro h j hj
    have h' : s.Pairwise (fun x y => x ≠ y) := h
    rw [List.pairwise_iff_getElem] at h'
    simp only [Go.Lib.keeps, decide_eq_true_eq]
    by_cases e : j = 0
    · exact .inl e
    · refine .inr ?_
      rw [hg j hj, hg (j - 1) (by omega)]
      exact fun he => h' (j - 1) j (by omega) hj (by omega) he.symm
/-- The length of what is left of the sorted row once its repetitions are gone. -/
def cpL (v : Nat → Int) (n : Nat) : Nat := (Go.Lib.compactUpTo (srt v n).toArray n).length
theorem cpL_le (v : Nat → Int) (n : Nat) : cpL v n ≤ n := by
  unfold cpL Go.Lib.compactUpTo
  rw [List.length_map]
  exact Nat.le_trans (List.length_filter_le _ _) (by simp)
theorem cpL_eq (v : Nat → Int) (n : Nat) : ((cpL v n : Int) == (n : Int)) = prE (newB v) n := by
  have h1 : cpL v n = n ↔ prE (newB v) n = true := by
    rw [← vlst_nodup, ← (srt_perm v n).nodup_iff, ← keeps_nodup (srt_sorted v n), srt_length]
    unfold cpL Go.Lib.compactUpTo
    rw [List.length_map]
    constructor
    · intro h j hj
      have h2 : ((List.range n).filter (Go.Lib.keeps (srt v n).toArray)).length = (List.range n).length := by rw [h]; simp
      exact List.length_filter_eq_length_iff.1 h2 j (List.mem_range.2 hj)
    · intro h
      have h2 := List.length_filter_eq_length_iff (l := List.range n) (p := Go.Lib.keeps (srt v n).toArray) |>.2 fun j hj => h j (List.mem_range.1 hj)
      rw [h2]; simp
  cases hb : prE (newB v) n with
  | true => have := h1.2 hb; rw [this]; simp
  | false =>
    have : ¬ cpL v n = n := fun e => by rw [h1.1 e] at hb; cases hb
    rw [beq_eq_false_iff_ne]
    omega
end Go.Proofs.Ytafiikfaeomhpaa
