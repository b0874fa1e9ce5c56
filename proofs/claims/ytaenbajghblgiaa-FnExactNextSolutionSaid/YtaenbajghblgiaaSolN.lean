/- Searching and counting: the solutions under decisions in their order, and what a search has still to visit (no claim of its own). Conditions: as each theorem states. -/
import Derived.Test.YtaenbajghblgiaaSolM
namespace Go.Proofs.Ytaenbajghblgiaa
open Go.ChangeShapes Go.WideShapes Go.ChangeAt Go.RowKit

theorem sorted_ext : ∀ (l1 l2 : List Nat), l1.Pairwise (· < ·) → l2.Pairwise (· < ·) → (∀ x, x ∈ l1 ↔ x ∈ l2) → l1 = l2 := by
  intro l1
  induction l1 with
  | nil =>
    intro l2 _ _ h
    cases l2 with
    | nil => rfl
    | cons b l2 => exact absurd ((h b).2 (by simp)) (by simp)
  | cons a l1 ih =>
    intro l2 h1 h2 h
    cases l2 with
    | nil => exact absurd ((h a).1 (by simp)) (by simp)
    | cons b l2 =>
      obtain ⟨p1, q1⟩ := List.pairwise_cons.1 h1
      obtain ⟨p2, q2⟩ := List.pairwise_cons.1 h2
      have e : a = b := by
        have x1 := (h a).1 (by simp)
        have x2 := (h b).2 (by simp)
        rcases List.mem_cons.1 x1 with e | y1
        · exact e
        · rcases List.mem_cons.1 x2 with e | y2
          · exact e.symm
          · have := p2 a y1
            have := p1 b y2
            omega
      subst e
      congr 1
      refine ih l2 q1 q2 fun x => ⟨fun hx => ?_, fun hx => ?_⟩
      · rcases List.mem_cons.1 ((h x).1 (by simp [hx])) with e | y
        · have := p1 x hx
          omega
        · exact y
      · rcases List.mem_cons.1 ((h x).2 (by simp [hx])) with e | y
        · have := p2 x hx
          omega
        · exact y
/-- The numbers of the solutions that agree with decisions, in order. -/
def solL (q : Nat → Bool) (D : List Int) : List Nat := (List.range 4096).filter fun k => q k && agD D (valN k)
theorem solL_mem {q : Nat → Bool} {D : List Int} {k : Nat} : k ∈ solL q D ↔ k < 4096 ∧ q k = true ∧ agD D (valN k) = true := by
  simp [solL, List.mem_filter]
theorem solL_sorted (q : Nat → Bool) (D : List Int) : (solL q D).Pairwise (· < ·) := List.pairwise_lt_range.filter _
theorem solL_nil {q : Nat → Bool} {D : List Int} (h : ∀ k, k < 4096 → q k = true → agD D (valN k) = true → False) : solL q D = [] := by
  refine sorted_ext _ _ (solL_sorted q D) List.Pairwise.nil fun x => ⟨fun hx => ?_, fun hx => by cases hx⟩
  obtain ⟨a, b, c⟩ := solL_mem.1 hx
  exact (h x a b c).elim
theorem solL_le (q : Nat → Bool) (D : List Int) : (solL q D).length ≤ 4096 := by
  refine Nat.le_trans (List.length_filter_le _ _) ?_
  rw [List.length_range]
  exact Nat.le_refl _

/-- The problem's solutions, by their numbers. -/
def qS (p : Nat → Con) (n : Nat) (k : Nat) : Bool := allE p (valN k) n
section
variable {p : Nat → Con} {n : Nat} {D : List Int} {V : Nat → Int} {r : Int}
theorem sol_under (hok : ∀ j, j < n → okC (p j) ∧ (p j).n ≤ 1048576) (hD : okD D) (h : Runs p n 0 (asgL z0 D) V r) {k : Nat} (hq : qS p n k = true) (ha : agD D (valN k) = true) : extI V (sg (valN k)) ∧ r = -1 :=
  h.under (fun j hj => (hok j hj).1) (sg_rng _) (fun j hj => eval_fixS (hok j hj).1 (hok j hj).2 (allE_at hq hj)) (ag_ext0 hD ha)
theorem sol_none (hok : ∀ j, j < n → okC (p j) ∧ (p j).n ≤ 1048576) (hD : okD D) (h : Runs p n 0 (asgL z0 D) V r) (hr : 0 ≤ r) : solL (qS p n) D = [] :=
  solL_nil fun k _ hq ha => by
    have := (sol_under hok hD h hq ha).2
    omega
theorem sol_full (hok : ∀ j, j < n → okC (p j) ∧ (p j).n ≤ 1048576) (hD : okD D) (h : Runs p n 0 (asgL z0 D) V r) (hr : r < 0) (hf : ∀ i, i < 12 → V i ≠ 0) (u : Nat → Bool) (hu : ∀ i, i < 12 → u i = decide (0 < V i)) : solL (qS p n) D = [numU u 12] := by
  have hlt := numU_lt u 12
  have hs : signs V (valN (numU u 12)) := fun i hi => ⟨hf i hi, by rw [valN_num u hi]; exact hu i hi⟩
  obtain ⟨hext, hend⟩ := h.ends fun j hj => (hok j hj).1
  have hfix : ∀ j, j < n → fixC (p j) V := by
    rcases hend with ⟨_, h1⟩ | ⟨j, _, h1, _⟩
    · exact h1
    · omega
  refine sorted_ext _ _ (solL_sorted _ D) (List.pairwise_singleton _ _) fun k => ⟨fun hk => ?_, fun hk => ?_⟩
  · obtain ⟨a, b, c⟩ := solL_mem.1 hk
    have h1 := (sol_under hok hD h b c).1
    rw [List.mem_singleton]
    refine valN_inj a (by omega) fun i hi => ?_
    have h2 := h1 i hi (hf i hi)
    rw [valN_num u hi, hu i hi]
    unfold sg at h2
    cases hb : valN k i with
    | true => rw [hb, if_pos rfl] at h2; exact (decide_eq_true (by omega)).symm
    | false => rw [hb, if_neg Bool.false_ne_true] at h2; exact (decide_eq_false (by omega)).symm
  · rw [List.mem_singleton.1 hk]
    exact solL_mem.2 ⟨by omega, allE_of fun j hj => fix_evalS (hok j hj).1 (hok j hj).2 hs (hfix j hj).1, ext_ag0 hD hs hext⟩
theorem trueP_pos (u : Nat → Bool) (m : Nat) : trueP u ((m : Int) + 1) = u m := by
  unfold trueP
  rw [if_pos (by omega)]
  congr 1
  omega
theorem trueP_ng (u : Nat → Bool) (m : Nat) : trueP u (-((m : Int) + 1)) = !u m := by
  unfold trueP
  rw [if_neg (by omega)]
  congr 2
  omega
theorem sol_split (hok : ∀ j, j < n → okC (p j) ∧ (p j).n ≤ 1048576) (hD : okD D) (h : Runs p n 0 (asgL z0 D) V r) {m : Nat} (hm : m < 12) (hf : ∀ i, i < m → V i ≠ 0) : solL (qS p n) D = solL (qS p n) (D ++ [-((m : Int) + 1)]) ++ solL (qS p n) (D ++ [(m : Int) + 1]) := by
  refine sorted_ext _ _ (solL_sorted _ D) ?_ fun k => ?_
  · rw [List.pairwise_append]
    refine ⟨solL_sorted _ _, solL_sorted _ _, fun a ha b hb => ?_⟩
    obtain ⟨a1, a2, a3⟩ := solL_mem.1 ha
    obtain ⟨b1, b2, b3⟩ := solL_mem.1 hb
    rw [agD_snoc, Bool.and_eq_true, trueP_ng] at a3
    rw [agD_snoc, Bool.and_eq_true, trueP_pos] at b3
    have x1 := (sol_under hok hD h a2 a3.1).1
    have x2 := (sol_under hok hD h b2 b3.1).1
    have am : valN a m = false := by simpa using a3.2
    have hc : numU (valN a) m = numU (valN b) m := numU_congr m fun i hi => by
      have y1 := x1 i (by omega) (hf i hi)
      have y2 := x2 i (by omega) (hf i hi)
      unfold sg at y1 y2
      cases ea : valN a i <;> cases eb : valN b i <;> simp [ea, eb] at y1 y2 ⊢ <;> omega
    have c1 := num_valN a1 (m + 1) (by omega)
    have c2 := num_valN b1 (m + 1) (by omega)
    have d1 : numU (valN a) (m + 1) = 2 * numU (valN a) m + 0 := by show 2 * numU (valN a) m + _ = _; rw [am]; rfl
    have d2 : numU (valN b) (m + 1) = 2 * numU (valN b) m + 1 := by show 2 * numU (valN b) m + _ = _; rw [b3.2]; rfl
    rcases Nat.lt_or_ge a b with hlt | hge
    · exact hlt
    · have := Nat.div_le_div_right (c := 2 ^ (12 - (m + 1))) hge
      omega
  · rw [List.mem_append, solL_mem, solL_mem, solL_mem, agD_snoc, agD_snoc, trueP_ng, trueP_pos]
    cases valN k m <;> simp
end

/-- What a search has still to give behind the decisions, the last of them first. -/
def remR (q : Nat → Bool) : List Int → List Nat
  | [] => []
  | z :: R => (if z < 0 then solL q (R.reverse ++ [-z]) else []) ++ remR q R
theorem rem_visit {q : Nat → Bool} {D : List Int} {m : Nat} (h : solL q D = solL q (D ++ [-((m : Int) + 1)]) ++ solL q (D ++ [(m : Int) + 1])) : solL q D ++ remR q D.reverse = solL q (D ++ [-((m : Int) + 1)]) ++ remR q (D ++ [-((m : Int) + 1)]).reverse := by
  rw [List.reverse_append, List.reverse_singleton]
  show _ = _ ++ ((if -((m : Int) + 1) < 0 then solL q (D.reverse.reverse ++ [- -((m : Int) + 1)]) else []) ++ remR q D.reverse)
  rw [if_pos (by omega), List.reverse_reverse, Int.neg_neg, ← List.append_assoc, ← h]
theorem rem_first {q : Nat → Bool} {D : List Int} {z : Int} (h : z < 0) : remR q (D ++ [z]).reverse = solL q (D ++ [-z]) ++ remR q (D ++ [-z]).reverse := by
  rw [List.reverse_append, List.reverse_singleton, List.reverse_append, List.reverse_singleton]
  show (if z < 0 then solL q (D.reverse.reverse ++ [-z]) else []) ++ remR q D.reverse = _ ++ ((if -z < 0 then _ else []) ++ remR q D.reverse)
  rw [if_pos h, if_neg (by omega), List.reverse_reverse, List.nil_append]
theorem rem_second {q : Nat → Bool} {D : List Int} {z : Int} (h : ¬ z < 0) : remR q (D ++ [z]).reverse = remR q D.reverse := by
  rw [List.reverse_append, List.reverse_singleton]
  show (if z < 0 then _ else []) ++ remR q D.reverse = _
  rw [if_neg h, List.nil_append]
/-- How much a search has still to do. -/
def aV (m : Nat) : Nat := 2 ^ (15 - m) - 4
def muR : List Int → Nat
  | [] => 0
  | z :: R => (if z < 0 then aV (R.length + 1) + 2 else 1) + muR R
theorem aV_pos {m : Nat} (h : m ≤ 12) : 4 ≤ aV m := by
  unfold aV
  have h1 : 2 ^ 3 ≤ 2 ^ (15 - m) := Nat.pow_le_pow_right (by omega) (by omega)
  have h2 : (2 : Nat) ^ 3 = 8 := rfl
  omega
theorem aV_step {m : Nat} (h : m + 1 ≤ 12) : aV m = 2 * aV (m + 1) + 4 := by
  have h1 := aV_pos h
  unfold aV at h1 ⊢
  rw [show 15 - m = (15 - (m + 1)) + 1 by omega, Nat.pow_succ]
  omega
theorem mu_visit {D : List Int} {z : Int} (h : D.length + 1 ≤ 12) (hz : z < 0) : aV (D ++ [z]).length + muR (D ++ [z]).reverse < aV D.length + muR D.reverse := by
  rw [List.reverse_append, List.reverse_singleton, List.length_append, List.length_singleton]
  show aV (D.length + 1) + ((if z < 0 then aV (D.reverse.length + 1) + 2 else 1) + muR D.reverse) < _
  rw [if_pos hz, List.length_reverse, aV_step h]
  omega
theorem mu_first {D : List Int} {z : Int} (hz : z < 0) : aV (D ++ [-z]).length + muR (D ++ [-z]).reverse < muR (D ++ [z]).reverse := by
  rw [List.reverse_append, List.reverse_singleton, List.reverse_append, List.reverse_singleton, List.length_append, List.length_singleton]
  show aV (D.length + 1) + ((if -z < 0 then _ else 1) + muR D.reverse) < (if z < 0 then aV (D.reverse.length + 1) + 2 else 1) + muR D.reverse
  rw [if_pos hz, if_neg (by omega), List.length_reverse]
  omega
theorem mu_second {D : List Int} {z : Int} (hz : ¬ z < 0) : muR D.reverse < muR (D ++ [z]).reverse := by
  rw [List.reverse_append, List.reverse_singleton]
  show _ < (if z < 0 then _ else 1) + muR D.reverse
  rw [if_neg hz]
  omega
theorem solL_none (q : Nat → Bool) : solL q [] = (List.range 4096).filter q := by
  unfold solL
  congr 1
  funext k
  show (q k && true) = q k
  rw [Bool.and_true]
end Go.Proofs.Ytaenbajghblgiaa
