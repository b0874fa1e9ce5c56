/- A blocking clause takes one solution away (no claim of its own). Conditions: as each theorem states. -/
import Derived.Test.YtnfkhakgikbbeaaCnxM
import Derived.Test.YtnfkhakgikbbeaaCdrZ
import Derived.Test.YtnfkhakgikbbeaaBlkI
namespace Go.Proofs.Ytnfkhakgikbbeaa
open Go.ChangeShapes Go.WideShapes Go.ChangeAt Go.RowKit

/-- Two rows of Booleans are alike. -/
def eqVB (v o : Nat → Bool) : Nat → Bool
  | 0 => true
  | k + 1 => eqVB v o k && (v k == o k)
theorem eqVB_no {v o : Nat → Bool} {n k : Nat} (h : (v k == o k) = false) (hk : k < n) : eqVB v o n = false := by
  induction n with
  | zero => omega
  | succ n ih =>
    unfold eqVB
    by_cases e : k = n
    · subst e; rw [h, Bool.and_false]
    · rw [ih (by omega), Bool.false_and]
theorem eqVB_yes {v o : Nat → Bool} {k : Nat} (h : eqVB v o k = true) (h1 : (v k == o k) = true) : eqVB v o (k + 1) = true := by
  unfold eqVB
  rw [h, h1]
  rfl

theorem bk_yes {c l : Nat → Int} {P : Int → Bool} {k : Nat} (h : P (l k) = true) : sB c l P (k + 1) = sB c l P k + c k := by show (if P (l k) then _ else _) = _; rw [if_pos h]
theorem bk_no {c l : Nat → Int} {P : Int → Bool} {k : Nat} (h : P (l k) = false) : sB c l P (k + 1) = sB c l P k := by show (if P (l k) then _ else _) = _; rw [if_neg (by rw [h]; decide)]

theorem blk_L (v : Nat → Bool) {i : Nat} (h : i < 12) : rL (clF 12 (blkL v)) i = blkL v i := by
  have key : ∀ k, k ≤ 12 → i < k → (clR (seenA (blkL v) 12) k).getD i (0, 0) = (1, blkL v i) := by
    intro k
    induction k with
    | zero => intro _ hi; omega
    | succ k ih =>
      intro hk hi
      rw [blk_row v (by omega)]
      by_cases e : i = k
      · subst e
        rw [List.getD, List.getElem?_append_right (by rw [blk_len v (by omega)]; exact Nat.le_refl _), blk_len v (by omega)]
        simp
      · rw [List.getD, List.getElem?_append_left (by rw [blk_len v (by omega)]; omega)]
        exact ih (by omega) (by omega)
  show ((clR (seenA (blkL v) 12) 12).getD i (0, 0)).2 = _
  rw [key 12 (Nat.le_refl _) h]

theorem blk_valid (v : Nat → Bool) : validB 12 one1 (rL (clF 12 (blkL v))) 1 = true := by
  have h : vtB one1 (rL (clF 12 (blkL v))) 12 = true := vtB_of fun k hk => okAt_iff.2 ⟨by rw [blk_L v hk]; exact blk_lit v hk, by show (1 : Int) ≤ 1; omega, by show (1 : Int) ≤ 1000; omega, by
    cases k with
    | zero =>
      show (0 : Int) < ab _
      rw [blk_L v hk, blk_ab]; omega
    | succ k =>
      show ab _ < ab _
      rw [blk_L v hk, blk_L v (show k < 12 by omega), blk_ab, blk_ab]; omega⟩
  simp [validB, h]

theorem blk_true (v o : Nat → Bool) (i : Nat) : trueP o (blkL v i) = !(v i == o i) := by
  have e1 : ((i : Int) + 1 - 1).toNat = i := by omega
  have e2 : (- -((i : Int) + 1) - 1).toNat = i := by omega
  unfold trueP blkL
  cases v i with
  | true =>
    show (if (0 : Int) < -((i : Int) + 1) then o (-((i : Int) + 1) - 1).toNat else !o (- -((i : Int) + 1) - 1).toNat) = _
    rw [if_neg (by omega), e2]
    cases o i <;> rfl
  | false =>
    show (if (0 : Int) < (i : Int) + 1 then o ((i : Int) + 1 - 1).toNat else !o (-((i : Int) + 1) - 1).toNat) = _
    rw [if_pos (by omega), e1]
    cases o i <;> rfl

theorem blk_eval (v o : Nat → Bool) : evalV 12 one1 (rL (clF 12 (blkL v))) 1 12 o = !eqVB v o 12 := by
  rw [evalV_yes (blk_valid v), show evW one1 (rL (clF 12 (blkL v))) o 12 = sB one1 (rL (clF 12 (blkL v))) (trueP o) 12 from sumW_sB (by omega) (coef_of (blk_valid v))]
  have key : ∀ k, k ≤ 12 → 0 ≤ sB one1 (rL (clF 12 (blkL v))) (trueP o) k ∧ (sB one1 (rL (clF 12 (blkL v))) (trueP o) k = 0 ↔ eqVB v o k = true) := by
    intro k
    induction k with
    | zero => intro _; exact ⟨Int.le_refl _, fun _ => rfl, fun _ => rfl⟩
    | succ k ih =>
      intro hk
      obtain ⟨h1, h2⟩ := ih (by omega)
      have hP : trueP o (rL (clF 12 (blkL v)) k) = !(v k == o k) := by rw [blk_L v (by omega)]; exact blk_true v o k
      cases hd : (v k == o k) with
      | true =>
        rw [hd] at hP
        rw [bk_no hP]
        refine ⟨h1, h2.trans ?_⟩
        have e : eqVB v o (k + 1) = (eqVB v o k && (v k == o k)) := rfl
        rw [e, hd, Bool.and_true]
      | false =>
        rw [hd] at hP
        rw [bk_yes hP]
        refine ⟨by show 0 ≤ _ + (1 : Int); omega, fun h => ?_, fun h => ?_⟩
        · exfalso
          have : sB one1 (rL (clF 12 (blkL v))) (trueP o) k + (1 : Int) = 0 := h
          omega
        · have e : eqVB v o (k + 1) = (eqVB v o k && (v k == o k)) := rfl
          rw [e, hd, Bool.and_false] at h
          cases h
  obtain ⟨h1, h2⟩ := key 12 (Nat.le_refl _)
  cases he : eqVB v o 12 with
  | true =>
    have := h2.2 he
    simp; omega
  | false =>
    have : ¬ sB one1 (rL (clF 12 (blkL v))) (trueP o) 12 = 0 := fun h => by rw [h2.1 h] at he; cases he
    simp; omega
/-- The blocking clause of some values. -/
def bkC (v : Nat → Bool) : Con := ⟨12, 1, one1, rL (clF 12 (blkL v))⟩
theorem eqVB_iff {v o : Nat → Bool} : ∀ n, eqVB v o n = true ↔ ∀ i, i < n → v i = o i
  | 0 => ⟨fun _ i hi => absurd hi (by omega), fun _ => rfl⟩
  | n + 1 => by
    show (eqVB v o n && (v n == o n)) = true ↔ _
    rw [Bool.and_eq_true, eqVB_iff n, beq_iff_eq]
    refine ⟨fun h i hi => ?_, fun h => ⟨fun i hi => h i (by omega), h n (by omega)⟩⟩
    by_cases e : i = n
    · subst e; exact h.2
    · exact h.1 i (by omega)
theorem eqVB_val {k j : Nat} (hk : k < 4096) (hj : j < 4096) : eqVB (valN k) (valN j) 12 = decide (j = k) := by
  cases h : eqVB (valN k) (valN j) 12 with
  | true => exact (decide_eq_true (valN_inj hj hk fun i hi => ((eqVB_iff 12).1 h i hi).symm)).symm
  | false =>
    refine (decide_eq_false fun e => ?_).symm
    subst e
    rw [(eqVB_iff 12).2 fun i _ => rfl] at h
    cases h
theorem filter_parts (q t : Nat → Bool) (L : List Nat) : (L.filter fun k => q k && t k).length + (L.filter fun k => q k && !t k).length = (L.filter q).length := by
  induction L with
  | nil => rfl
  | cons x L ih =>
    cases hq : q x <;> cases ht : t x <;> simp [hq, ht] <;> omega
theorem filter_one {q : Nat → Bool} {k : Nat} (hq : q k = true) : ∀ n, ((List.range n).filter fun j => q j && decide (j = k)).length = if k < n then 1 else 0
  | 0 => rfl
  | n + 1 => by
    rw [List.range_succ, List.filter_append, List.length_append, filter_one hq n]
    by_cases e : n = k
    · subst e
      rw [if_neg (by omega), if_pos (by omega)]
      simp [hq]
    · have h2 : (List.filter (fun j => q j && decide (j = k)) [n]).length = 0 := by simp [e]
      rw [h2]
      by_cases h : k < n
      · rw [if_pos h, if_pos (by omega)]
      · rw [if_neg h, if_neg (by omega)]
section
variable {m : Nat} {p : Nat → Con} {v : Nat → Bool}
theorem bk_prob (hv : probB m p = true) (h4 : m + 1 ≤ 400) : probB (m + 1) (catP m p fun _ => bkC v) = true := by
  have h1 := prob_all hv
  have h2 : allV (fun _ => bkC v) 1 = true := by
    show (true && validB (bkC v).n (bkC v).c (bkC v).l (bkC v).bd) = true
    rw [Bool.true_and]
    exact blk_valid v
  unfold probB
  rw [allV_cat, h1, h2, decide_eq_true h4]
  rfl
theorem bk_qS (k : Nat) : qS (catP m p fun _ => bkC v) (m + 1) k = (qS p m k && !eqVB v (valN k) 12) := by
  unfold qS
  rw [allE_cat]
  have h : allE (fun _ => bkC v) (valN k) 1 = !eqVB v (valN k) 12 := by
    show (true && evalV 12 one1 (rL (clF 12 (blkL v))) 1 12 (valN k)) = _
    rw [Bool.true_and, blk_eval]
  rw [h]
theorem cnt_block {k : Nat} (hv : probB m p = true) (h4 : m + 1 ≤ 400) (hk : k < 4096) (hq : qS p m k = true) : cntS m p = cntS (m + 1) (catP m p fun _ => bkC (valN k)) + 1 := by
  unfold cntS
  rw [if_pos hv, if_pos (bk_prob hv h4)]
  unfold sols
  rw [solL_none, solL_none]
  have h1 := filter_parts (qS p m) (fun j => decide (j = k)) (List.range 4096)
  have h2 := filter_one hq 4096
  rw [if_pos hk] at h2
  have h3 : (List.range 4096).filter (qS (catP m p fun _ => bkC (valN k)) (m + 1)) = (List.range 4096).filter fun j => qS p m j && !decide (j = k) :=
    List.filter_congr fun j hj => by rw [bk_qS, eqVB_val hk (List.mem_range.1 hj)]
  rw [h3]
  omega
theorem cnt_next {nv : Nat} (h4 : m + 1 ≤ 400) (h : nxOk m p nv v = true) : cntS m p = cntS (m + 1) (catP m p fun _ => bkC (nxV m p v)) + 1 := by
  unfold nxOk at h
  rw [Bool.and_eq_true, Bool.and_eq_true] at h
  obtain ⟨j, hj⟩ := Option.isSome_iff_exists.1 h.2.2
  have hm : j ∈ nxL m p v := List.mem_of_mem_head? (by rw [hj]; rfl)
  obtain ⟨h1, h2⟩ := List.mem_filter.1 hm
  rw [Bool.and_eq_true, decide_eq_true_eq] at h2
  unfold nxV
  rw [hj]
  exact cnt_block h.1 h4 (List.mem_range.1 h1) h2.1
end
theorem cntS_le9 (m : Nat) (p : Nat → Con) : cntS m p ≤ 4096 := by
  unfold cntS
  split
  · exact sols_len m p
  · omega
theorem src_one9 {W : World} {H : Nat} {a b : Value} {T : TypeId} (h : W.heap[H]? = some (.cells #[a, b] T (0, 0))) (ha : a.oneCell' = true) (hb : b.oneCell' = true) : SrcC W (some ⟨H, 0, none⟩) 1 [a, b] := by
  refine ⟨rfl, fun u hu => ?_, fun x e j u hu => ?_⟩
  · rcases List.mem_cons.1 hu with e | hu
    · rw [e]; exact ha
    · rw [List.mem_singleton.1 hu]; exact hb
  · cases e
    have h2 : (⟨H, 0, none⟩ : Addr).add j = ⟨H, j, none⟩ := by simp [Addr.add]; omega
    rw [h2]
    exact (cell_of_row W H j _ _ _ h).trans (by rw [← Array.getElem?_toList]; exact hu)
theorem bk_size {m : Nat} {p : Nat → Con} (h : ∀ i, i < m → (p i).n ≤ 1048576) (v : Nat → Bool) : ∀ i, i < m + 1 → (catP m p (fun _ => bkC v) i).n ≤ 1048576 := fun i _ => by
  unfold catP
  split
  · exact h i ‹_›
  · show 12 ≤ 1048576
    omega
theorem pxp_bk {W : World} {A : Option Addr} {c : Nat} {v : Nat → Bool} (h : Rd W W.heap.size A 12 one1 (rL (clF 12 (blkL v)))) : PxP W 1 (fun _ => bkC v) [.slice A 12 c, .int .i64 1] := fun i hi => by
  obtain rfl : i = 0 := by omega
  exact ⟨A, c, rfl, rfl, h⟩
end Go.Proofs.Ytnfkhakgikbbeaa
