/- Searching and counting: which values agree with decisions, how they split, in which order they come (no claim of its own). Conditions: as each theorem states. · Searching and counting: the solutions under decisions in their order, and what a search has still to visit (no claim of its own). Conditions: as each theorem states. · The small methods of a search (no claim of its own). Conditions: as each theorem states. · The memory of a search, and what its decisions come to (no claim of its own). Conditions: as each theorem states. · A scope with two labels; what a search may turn (no claim of its own). Conditions: as each theorem states. · The iterator over a problem's solutions (no claim of its own). Conditions: as each theorem states. · A range over the iterator of solutions whose body never leaves early (no claim of its own). Conditions: as each theorem states. · What an iterator over solutions is made of, and a propagator under it (no claim of its own). Conditions: as each theorem states. · The number of solutions, by the program (no claim of its own). Conditions: as each theorem states. · The number of solutions, by the specification (no claim of its own). Conditions: as each theorem states. -/
import Derived.Test.YtckaeaclclhapaaPgZ
import Derived.Test.YtckaeaclclhapaaSatP
import Derived.Test.YtckaeaclclhapaaBoolA
import Derived.Deep.RegionHeld3
import Derived.Deep.Cut
import Derived.Deep.AppendLies
import Derived.Scope
import Derived.RangeFuncNested
import Derived.RangeFuncBound
import Derived.RangeFuncCalls
import Derived.RangeFuncLeaves
import Derived.RangeFuncFrom
import Derived.OwnWalkIn
import Derived.TacticsInMore
import Derived.WalkMore
import Derived.Deep.QuietTactic
import Derived.StillTailTactics
import Derived.Deep.CutBlock
import Derived.RangeFuncKeeps
import Derived.Shelf.Abstract
import Derived.LoopNIn
import Derived.LoopIn
namespace Go.Proofs.Ytckaeaclclhapaa
open Go.ChangeShapes Go.WideShapes Go.ChangeAt Go.RowKit

/-- Values as a partial assignment. -/
def sg (u : Nat → Bool) (i : Nat) : Int := if u i then 1 else -1
theorem sg_rng (u : Nat → Bool) : rng (sg u) := fun i _ => by unfold sg; split <;> omega
theorem stV_sg (u : Nat → Bool) (z : Int) : stV (sg u) z = if trueP u z then 1 else -1 := by
  unfold stV trueP sg
  split
  · rfl
  · cases u (-z - 1).toNat <;> rfl
theorem nf_sg (u : Nat → Bool) (z : Int) : nfP (sg u) z = trueP u z := by
  unfold nfP
  rw [stV_sg]
  cases trueP u z <;> rfl
theorem eval_fixS {q : Con} (hq : okC q) (hn : q.n ≤ 1048576) {u : Nat → Bool} (h : evalV q.n q.c q.l q.bd 12 u = true) : fixC q (sg u) := by
  have hv : validB q.n q.c q.l q.bd = true := hq
  rw [evalV_yes hv, decide_eq_true_eq] at h
  have h1 : evW q.c q.l u q.n = sB q.c q.l (trueP u) q.n := sumW_sB hn (coef_of hv)
  rw [h1] at h
  have h2 : sB q.c q.l (nfP (sg u)) q.n = sB q.c q.l (trueP u) q.n := sB_congr (nf_sg u) q.n
  refine ⟨?_, ?_⟩
  · unfold slkC slk
    rw [h2]
    omega
  · rw [List.eq_nil_iff_forall_not_mem]
    intro z hz
    obtain ⟨j, _, _, h0, _⟩ := imL_mem.1 hz
    rw [stV_sg] at h0
    split at h0 <;> omega
theorem allE_at {p : Nat → Con} {u : Nat → Bool} {m i : Nat} (h : allE p u m = true) (hi : i < m) : evalV (p i).n (p i).c (p i).l (p i).bd 12 u = true := by
  induction m with
  | zero => omega
  | succ m ih =>
    unfold allE at h
    rw [Bool.and_eq_true] at h
    by_cases e : i = m
    · subst e; exact h.2
    · exact ih h.1 (by omega)
theorem allE_of {p : Nat → Con} {u : Nat → Bool} {m : Nat} (h : ∀ i, i < m → evalV (p i).n (p i).c (p i).l (p i).bd 12 u = true) : allE p u m = true := by
  induction m with
  | zero => rfl
  | succ m ih => exact allE_yes (ih fun i hi => h i (by omega)) (h m (by omega))
theorem sB_congrL {c l : Nat → Int} {P Q : Int → Bool} : ∀ n, (∀ k, k < n → P (l k) = Q (l k)) → sB c l P n = sB c l Q n := by
  intro n
  induction n with
  | zero => intro _; rfl
  | succ n ih =>
    intro h
    have h1 := ih fun k hk => h k (by omega)
    have h2 := h n (by omega)
    cases hp : P (l n) with
    | true => rw [sB_yes hp, sB_yes (h2 ▸ hp), h1]
    | false => rw [sB_no hp, sB_no (h2 ▸ hp), h1]
/-- Full values whose signs u gives. -/
def signs (V : Nat → Int) (u : Nat → Bool) : Prop := ∀ i, i < 12 → V i ≠ 0 ∧ u i = decide (0 < V i)
theorem nf_signs {V : Nat → Int} {u : Nat → Bool} (h : signs V u) {z : Int} (hz : litB z = true) : nfP V z = trueP u z := by
  obtain ⟨h0, h1, h2⟩ := litB_iff.1 hz
  unfold nfP stV trueP
  by_cases hp : 0 < z
  · obtain ⟨a, b⟩ := h (z - 1).toNat (by omega)
    rw [if_pos hp, if_pos hp, b, Bool.eq_iff_iff, decide_eq_true_eq, decide_eq_true_eq]
    omega
  · obtain ⟨a, b⟩ := h (-z - 1).toNat (by omega)
    rw [if_neg hp, if_neg hp, b, Bool.eq_iff_iff, Bool.not_eq_true', decide_eq_true_eq, decide_eq_false_iff_not]
    omega
theorem fix_evalS {q : Con} (hq : okC q) (hn : q.n ≤ 1048576) {V : Nat → Int} {u : Nat → Bool} (hs : signs V u) (h : ¬ slkC q V < 0) : evalV q.n q.c q.l q.bd 12 u = true := by
  have hv : validB q.n q.c q.l q.bd = true := hq
  rw [evalV_yes hv, decide_eq_true_eq]
  have h1 : evW q.c q.l u q.n = sB q.c q.l (trueP u) q.n := sumW_sB hn (coef_of hv)
  have h2 : sB q.c q.l (nfP V) q.n = sB q.c q.l (trueP u) q.n := sB_congrL q.n fun k hk => nf_signs hs (litAt (l := q.l) hq hk)
  rw [h1, ← h2]
  unfold slkC slk at h
  omega

/-- Decisions: valid literals of different variables. -/
def okDV (D : List Int) : Prop := (∀ z ∈ D, litB z = true) ∧ D.Pairwise apartL
def agD (D : List Int) (u : Nat → Bool) : Bool := D.all (trueP u)
theorem agD_snoc (D : List Int) (z : Int) (u : Nat → Bool) : agD (D ++ [z]) u = (agD D u && trueP u z) := by simp [agD]
theorem trueP_neg {z : Int} (hz : litB z = true) (u : Nat → Bool) : trueP u (-z) = !trueP u z := by
  obtain ⟨h0, _, _⟩ := litB_iff.1 hz
  unfold trueP
  by_cases hp : 0 < z
  · rw [if_pos hp, if_neg (by omega), Int.neg_neg]
  · rw [if_neg hp, if_pos (by omega), Bool.not_not]
theorem rng_z0 : rng z0 := fun i _ => by unfold z0; omega
theorem asgL_offs {x : Int} (hx : litB x = true) : ∀ (D : List Int) (v : Nat → Int), (∀ y ∈ D, litB y = true ∧ apartL y x) → stV (asgL v D) x = stV v x := by
  intro D
  induction D with
  | nil => intro v _; rfl
  | cons y D ih =>
    intro v h
    obtain ⟨h1, h2, h3⟩ := h y (by simp)
    show stV (asgL (asg v y) D) x = _
    rw [ih _ fun a ha => h a (by simp [ha])]
    exact stV_off h1 hx (fun e => h2 e.symm) (fun e => h3 (by omega))
theorem asgL_in : ∀ (D : List Int) (v : Nat → Int), okDV D → ∀ z ∈ D, stV (asgL v D) z = 1 := by
  intro D
  induction D with
  | nil => intro v _ z hz; cases hz
  | cons y D ih =>
    intro v h z hz
    obtain ⟨h1, h2⟩ := h
    obtain ⟨h3, h4⟩ := List.pairwise_cons.1 h2
    show stV (asgL (asg v y) D) z = 1
    by_cases hD : z ∈ D
    · exact ih _ ⟨fun a ha => h1 a (by simp [ha]), h4⟩ z hD
    · have e : z = y := by
        rcases List.mem_cons.1 hz with e | e
        · exact e
        · exact absurd e hD
      subst e
      rw [asgL_offs (h1 z hz) D _ fun a ha => ⟨h1 a (by simp [ha]), fun e => (h3 a ha).1 e.symm, fun e => (h3 a ha).2 (by omega)⟩]
      exact stV_self (h1 z hz)
theorem ag_ext0 {D : List Int} (hD : okDV D) {u : Nat → Bool} (h : agD D u = true) : extI (asgL z0 D) (sg u) :=
  ext_toL D z0 (fun i _ h0 => absurd rfl h0) fun z hz => ⟨hD.1 z hz, by
    have h1 : trueP u z = true := by unfold agD at h; exact (List.all_eq_true.1 h) z hz
    rw [stV_sg, h1]
    rfl⟩
theorem ext_ag0 {D : List Int} (hD : okDV D) {V : Nat → Int} {u : Nat → Bool} (hs : signs V u) (h : extI (asgL z0 D) V) : agD D u = true := by
  unfold agD
  rw [List.all_eq_true]
  intro z hz
  have h1 := asgL_in D z0 hD z hz
  have h2 := stV_ext h (hD.1 z hz) (by omega)
  rw [← nf_signs hs (hD.1 z hz)]
  unfold nfP
  exact decide_eq_true (by omega)

/-- How many of the first k variables have values. -/
def nzC (v : Nat → Int) : Nat → Nat
  | 0 => 0
  | k + 1 => nzC v k + (if v k = 0 then 0 else 1)
theorem nzC_le (v : Nat → Int) (k : Nat) : nzC v k ≤ k := by
  induction k with
  | zero => exact Nat.le_refl _
  | succ k ih => unfold nzC; split <;> omega
theorem nzC_one {v w : Nat → Int} {i : Nat} (h0 : v i = 0) (h1 : w i ≠ 0) (h : ∀ j, j ≠ i → w j = v j) : ∀ k, nzC w k = nzC v k + (if i < k then 1 else 0) := by
  intro k
  induction k with
  | zero => rfl
  | succ k ih =>
    unfold nzC
    rw [ih]
    by_cases e : k = i
    · subst e
      rw [if_neg (show ¬ k < k by omega), if_neg h1, if_pos h0, if_pos (show k < k + 1 by omega)]
    · rw [h k e]
      by_cases e2 : i < k
      · rw [if_pos e2, if_pos (show i < k + 1 by omega)]; omega
      · rw [if_neg e2, if_neg (show ¬ i < k + 1 by omega)]; omega
theorem nzC_asg {v : Nat → Int} {z : Int} (hz : litB z = true) (h0 : stV v z = 0) : nzC (asg v z) 12 = nzC v 12 + 1 := by
  obtain ⟨a, b, c⟩ := litB_iff.1 hz
  unfold stV at h0
  by_cases hp : 0 < z
  · rw [if_pos hp] at h0
    rw [nzC_one (v := v) (w := asg v z) (i := (z - 1).toNat) h0 (by unfold asg; rw [if_pos hp, if_pos rfl]; omega) (fun j hj => by unfold asg; rw [if_pos hp, if_neg hj]), if_pos (by omega)]
  · rw [if_neg hp] at h0
    rw [nzC_one (v := v) (w := asg v z) (i := (-z - 1).toNat) (by omega) (by unfold asg; rw [if_neg hp, if_pos rfl]; omega) (fun j hj => by unfold asg; rw [if_neg hp, if_neg hj]), if_pos (by omega)]
theorem nzC_asgL : ∀ (D : List Int) (v : Nat → Int), okDV D → (∀ z ∈ D, stV v z = 0) → nzC (asgL v D) 12 = nzC v 12 + D.length := by
  intro D
  induction D with
  | nil => intro v _ _; rfl
  | cons y D ih =>
    intro v h h0
    obtain ⟨h1, h2⟩ := h
    obtain ⟨h3, h4⟩ := List.pairwise_cons.1 h2
    show nzC (asgL (asg v y) D) 12 = _
    rw [ih (asg v y) ⟨fun a ha => h1 a (by simp [ha]), h4⟩ fun z hz => ?_, nzC_asg (h1 y (by simp)) (h0 y (by simp))]
    · simp only [List.length_cons]; omega
    · rw [stV_off (h1 y (by simp)) (h1 z (by simp [hz])) (fun e => (h3 z hz).1 e.symm) (fun e => (h3 z hz).2 (by omega))]
      exact h0 z (by simp [hz])
theorem okD_len {D : List Int} (h : okDV D) : D.length ≤ 12 := by
  have h1 := nzC_asgL D z0 h fun z _ => by unfold stV z0; split <;> rfl
  have h2 := nzC_le (asgL z0 D) 12
  omega
theorem okD_nil : okDV [] := ⟨fun z hz => (by cases hz), List.Pairwise.nil⟩
/-- A variable that has no value behind propagation is none of the decisions'. -/
theorem okD_more {D : List Int} (h : okDV D) {V : Nat → Int} (he : extI (asgL z0 D) V) {z : Int} (hz : litB z = true) (h0 : stV V z = 0) : okDV (D ++ [z]) := by
  refine ⟨fun y hy => ?_, ?_⟩
  · rcases List.mem_append.1 hy with hy | hy
    · exact h.1 y hy
    · rw [List.mem_singleton.1 hy]; exact hz
  · rw [List.pairwise_append]
    refine ⟨h.2, List.pairwise_singleton _ _, fun y hy x hx => ?_⟩
    rw [List.mem_singleton.1 hx]
    have h1 := asgL_in D z0 h y hy
    have h2 := stV_ext he (h.1 y hy) (by omega)
    rw [h1] at h2
    refine ⟨fun e => ?_, fun e => ?_⟩
    · rw [e, h0] at h2; omega
    · rw [e, stV_neg hz, h0] at h2; omega
theorem okD_flip {D : List Int} {z : Int} (h : okDV (D ++ [z])) : okDV (D ++ [-z]) := by
  have hz : litB z = true := h.1 z (by simp)
  obtain ⟨h1, h2, h3⟩ := List.pairwise_append.1 h.2
  refine ⟨fun y hy => ?_, ?_⟩
  · rcases List.mem_append.1 hy with hy | hy
    · exact h.1 y (by simp [hy])
    · rw [List.mem_singleton.1 hy]; exact litB_ng hz
  · rw [List.pairwise_append]
    refine ⟨h1, List.pairwise_singleton _ _, fun y hy x hx => ?_⟩
    rw [List.mem_singleton.1 hx]
    obtain ⟨a, b⟩ := h3 y hy z (by simp)
    exact ⟨b, by rw [Int.neg_neg]; exact a⟩
theorem okD_pre {D : List Int} {z : Int} (h : okDV (D ++ [z])) : okDV D :=
  ⟨fun y hy => h.1 y (by simp [hy]), (List.pairwise_append.1 h.2).1⟩

/-- The values whose number is k: the first variable weighs most. -/
def valN (k i : Nat) : Bool := k / 2 ^ (11 - i) % 2 == 1
def numU (u : Nat → Bool) : Nat → Nat
  | 0 => 0
  | j + 1 => 2 * numU u j + (if u j then 1 else 0)
theorem numU_lt (u : Nat → Bool) (j : Nat) : numU u j < 2 ^ j := by
  induction j with
  | zero => exact Nat.lt_succ_self 0
  | succ j ih =>
    unfold numU
    rw [Nat.pow_succ]
    split <;> omega
theorem numU_div (u : Nat → Bool) (j t : Nat) : numU u (j + t) / 2 ^ t = numU u j := by
  induction t with
  | zero => simp
  | succ t ih =>
    have e : numU u (j + (t + 1)) / 2 = numU u (j + t) := by
      show (2 * numU u (j + t) + _) / 2 = _
      split <;> omega
    rw [Nat.pow_succ, Nat.mul_comm, ← Nat.div_div_eq_div_mul, e, ih]
theorem valN_num (u : Nat → Bool) {i : Nat} (hi : i < 12) : valN (numU u 12) i = u i := by
  unfold valN
  have h := numU_div u (i + 1) (11 - i)
  rw [show i + 1 + (11 - i) = 12 by omega] at h
  rw [h]
  show ((2 * numU u i + _) % 2 == 1) = _
  cases u i with
  | true => rw [if_pos rfl, beq_iff_eq.2 (show (2 * numU u i + 1) % 2 = 1 by omega)]
  | false => rw [if_neg Bool.false_ne_true, beq_eq_false_iff_ne]; omega
theorem num_valN {k : Nat} (hk : k < 4096) : ∀ j, j ≤ 12 → numU (valN k) j = k / 2 ^ (12 - j) := by
  intro j
  induction j with
  | zero =>
    intro _
    show 0 = k / 4096
    omega
  | succ j ih =>
    intro hj
    have h1 := ih (by omega)
    unfold numU
    rw [h1]
    have e : 2 ^ (12 - j) = 2 ^ (11 - j) * 2 := by rw [← Nat.pow_succ]; congr 1; omega
    rw [e, ← Nat.div_div_eq_div_mul, show 12 - (j + 1) = 11 - j by omega]
    unfold valN
    generalize k / 2 ^ (11 - j) = q
    by_cases h : q % 2 = 1
    · rw [if_pos (by rw [h]; rfl)]; omega
    · rw [if_neg (by simpa using h)]; omega
theorem numU_congr {u u' : Nat → Bool} : ∀ j, (∀ i, i < j → u i = u' i) → numU u j = numU u' j := by
  intro j
  induction j with
  | zero => intro _; rfl
  | succ j ih =>
    intro h
    unfold numU
    rw [ih fun i hi => h i (by omega), h j (by omega)]
theorem valN_inj {k k' : Nat} (hk : k < 4096) (hk' : k' < 4096) (h : ∀ i, i < 12 → valN k i = valN k' i) : k = k' := by
  have h1 := num_valN hk 12 (Nat.le_refl _)
  have h2 := num_valN hk' 12 (Nat.le_refl _)
  rw [numU_congr 12 h, h2] at h1
  simpa using h1.symm
end Go.Proofs.Ytckaeaclclhapaa

namespace Go.Proofs.Ytckaeaclclhapaa
open Go.ChangeShapes Go.WideShapes Go.ChangeAt Go.RowKit

theorem sorted_ext : ∀ (l1 l2 : List Nat), l1.Pairwise (· < ·) → l2.Pairwise (· < ·) → (∀ x, x ∈ l1 ↔ x ∈ l2) → l1 = l2 := by
  intro l1
  induction l1 with
  | nil =>
    intro l2 _ _ h
    cases l2 with
    | nil => rfl
    | cons b l2 => exact absurd ((h b).2 (by simp)) (by simp)
  | cons a l1 ih =>
    intro l2 h1 h2 h
    cases l2 with
    | nil => exact absurd ((h a).1 (by simp)) (by simp)
    | cons b l2 =>
      obtain ⟨p1, q1⟩ := List.pairwise_cons.1 h1
      obtain ⟨p2, q2⟩ := List.pairwise_cons.1 h2
      have e : a = b := by
        have x1 := (h a).1 (by simp)
        have x2 := (h b).2 (by simp)
        rcases List.mem_cons.1 x1 with e | y1
        · exact e
        · rcases List.mem_cons.1 x2 with e | y2
          · exact e.symm
          · have := p2 a y1
            have := p1 b y2
            omega
      subst e
      congr 1
      refine ih l2 q1 q2 fun x => ⟨fun hx => ?_, fun hx => ?_⟩
      · rcases List.mem_cons.1 ((h x).1 (by simp [hx])) with e | y
        · have := p1 x hx
          omega
        · exact y
      · rcases List.mem_cons.1 ((h x).2 (by simp [hx])) with e | y
        · have := p2 x hx
          omega
        · exact y
/-- The numbers of the solutions that agree with decisions, in order. -/
def solL (q : Nat → Bool) (D : List Int) : List Nat := (List.range 4096).filter fun k => q k && agD D (valN k)
theorem solL_mem {q : Nat → Bool} {D : List Int} {k : Nat} : k ∈ solL q D ↔ k < 4096 ∧ q k = true ∧ agD D (valN k) = true := by
  simp [solL, List.mem_filter]
theorem solL_sorted (q : Nat → Bool) (D : List Int) : (solL q D).Pairwise (· < ·) := List.pairwise_lt_range.filter _
theorem solL_nil {q : Nat → Bool} {D : List Int} (h : ∀ k, k < 4096 → q k = true → agD D (valN k) = true → False) : solL q D = [] := by
  refine sorted_ext _ _ (solL_sorted q D) List.Pairwise.nil fun x => ⟨fun hx => ?_, fun hx => by cases hx⟩
  obtain ⟨a, b, c⟩ := solL_mem.1 hx
  exact (h x a b c).elim
theorem solL_le (q : Nat → Bool) (D : List Int) : (solL q D).length ≤ 4096 := by
  refine Nat.le_trans (List.length_filter_le _ _) ?_
  rw [List.length_range]
  exact Nat.le_refl _

/-- The problem's solutions, by their numbers. -/
def qS (p : Nat → Con) (n : Nat) (k : Nat) : Bool := allE p (valN k) n
section
variable {p : Nat → Con} {n : Nat} {D : List Int} {V : Nat → Int} {r : Int}
theorem sol_under (hok : ∀ j, j < n → okC (p j) ∧ (p j).n ≤ 1048576) (hD : okDV D) (h : Runs p n 0 (asgL z0 D) V r) {k : Nat} (hq : qS p n k = true) (ha : agD D (valN k) = true) : extI V (sg (valN k)) ∧ r = -1 :=
  h.under (fun j hj => (hok j hj).1) (sg_rng _) (fun j hj => eval_fixS (hok j hj).1 (hok j hj).2 (allE_at hq hj)) (ag_ext0 hD ha)
theorem sol_none (hok : ∀ j, j < n → okC (p j) ∧ (p j).n ≤ 1048576) (hD : okDV D) (h : Runs p n 0 (asgL z0 D) V r) (hr : 0 ≤ r) : solL (qS p n) D = [] :=
  solL_nil fun k _ hq ha => by
    have := (sol_under hok hD h hq ha).2
    omega
theorem sol_full (hok : ∀ j, j < n → okC (p j) ∧ (p j).n ≤ 1048576) (hD : okDV D) (h : Runs p n 0 (asgL z0 D) V r) (hr : r < 0) (hf : ∀ i, i < 12 → V i ≠ 0) (u : Nat → Bool) (hu : ∀ i, i < 12 → u i = decide (0 < V i)) : solL (qS p n) D = [numU u 12] := by
  have hlt := numU_lt u 12
  have hs : signs V (valN (numU u 12)) := fun i hi => ⟨hf i hi, by rw [valN_num u hi]; exact hu i hi⟩
  obtain ⟨hext, hend⟩ := h.ends fun j hj => (hok j hj).1
  have hfix : ∀ j, j < n → fixC (p j) V := by
    rcases hend with ⟨_, h1⟩ | ⟨j, _, h1, _⟩
    · exact h1
    · omega
  refine sorted_ext _ _ (solL_sorted _ D) (List.pairwise_singleton _ _) fun k => ⟨fun hk => ?_, fun hk => ?_⟩
  · obtain ⟨a, b, c⟩ := solL_mem.1 hk
    have h1 := (sol_under hok hD h b c).1
    rw [List.mem_singleton]
    refine valN_inj a (by omega) fun i hi => ?_
    have h2 := h1 i hi (hf i hi)
    rw [valN_num u hi, hu i hi]
    unfold sg at h2
    cases hb : valN k i with
    | true => rw [hb, if_pos rfl] at h2; exact (decide_eq_true (by omega)).symm
    | false => rw [hb, if_neg Bool.false_ne_true] at h2; exact (decide_eq_false (by omega)).symm
  · rw [List.mem_singleton.1 hk]
    exact solL_mem.2 ⟨by omega, allE_of fun j hj => fix_evalS (hok j hj).1 (hok j hj).2 hs (hfix j hj).1, ext_ag0 hD hs hext⟩
theorem trueP_pos (u : Nat → Bool) (m : Nat) : trueP u ((m : Int) + 1) = u m := by
  unfold trueP
  rw [if_pos (by omega)]
  congr 1
  omega
theorem trueP_ngN (u : Nat → Bool) (m : Nat) : trueP u (-((m : Int) + 1)) = !u m := by
  unfold trueP
  rw [if_neg (by omega)]
  congr 2
  omega
theorem sol_split (hok : ∀ j, j < n → okC (p j) ∧ (p j).n ≤ 1048576) (hD : okDV D) (h : Runs p n 0 (asgL z0 D) V r) {m : Nat} (hm : m < 12) (hf : ∀ i, i < m → V i ≠ 0) : solL (qS p n) D = solL (qS p n) (D ++ [-((m : Int) + 1)]) ++ solL (qS p n) (D ++ [(m : Int) + 1]) := by
  refine sorted_ext _ _ (solL_sorted _ D) ?_ fun k => ?_
  · rw [List.pairwise_append]
    refine ⟨solL_sorted _ _, solL_sorted _ _, fun a ha b hb => ?_⟩
    obtain ⟨a1, a2, a3⟩ := solL_mem.1 ha
    obtain ⟨b1, b2, b3⟩ := solL_mem.1 hb
    rw [agD_snoc, Bool.and_eq_true, trueP_ngN] at a3
    rw [agD_snoc, Bool.and_eq_true, trueP_pos] at b3
    have x1 := (sol_under hok hD h a2 a3.1).1
    have x2 := (sol_under hok hD h b2 b3.1).1
    have am : valN a m = false := by simpa using a3.2
    have hc : numU (valN a) m = numU (valN b) m := numU_congr m fun i hi => by
      have y1 := x1 i (by omega) (hf i hi)
      have y2 := x2 i (by omega) (hf i hi)
      unfold sg at y1 y2
      cases ea : valN a i <;> cases eb : valN b i <;> simp [ea, eb] at y1 y2 ⊢ <;> omega
    have c1 := num_valN a1 (m + 1) (by omega)
    have c2 := num_valN b1 (m + 1) (by omega)
    have d1 : numU (valN a) (m + 1) = 2 * numU (valN a) m + 0 := by show 2 * numU (valN a) m + _ = _; rw [am]; rfl
    have d2 : numU (valN b) (m + 1) = 2 * numU (valN b) m + 1 := by show 2 * numU (valN b) m + _ = _; rw [b3.2]; rfl
    rcases Nat.lt_or_ge a b with hlt | hge
    · exact hlt
    · have := Nat.div_le_div_right (c := 2 ^ (12 - (m + 1))) hge
      omega
  · rw [List.mem_append, solL_mem, solL_mem, solL_mem, agD_snoc, agD_snoc, trueP_ngN, trueP_pos]
    cases valN k m <;> simp
end

/-- What a search has still to give behind the decisions, the last of them first. -/
def remR (q : Nat → Bool) : List Int → List Nat
  | [] => []
  | z :: R => (if z < 0 then solL q (R.reverse ++ [-z]) else []) ++ remR q R
theorem rem_visit {q : Nat → Bool} {D : List Int} {m : Nat} (h : solL q D = solL q (D ++ [-((m : Int) + 1)]) ++ solL q (D ++ [(m : Int) + 1])) : solL q D ++ remR q D.reverse = solL q (D ++ [-((m : Int) + 1)]) ++ remR q (D ++ [-((m : Int) + 1)]).reverse := by
  rw [List.reverse_append, List.reverse_singleton]
  show _ = _ ++ ((if -((m : Int) + 1) < 0 then solL q (D.reverse.reverse ++ [- -((m : Int) + 1)]) else []) ++ remR q D.reverse)
  rw [if_pos (by omega), List.reverse_reverse, Int.neg_neg, ← List.append_assoc, ← h]
theorem rem_first {q : Nat → Bool} {D : List Int} {z : Int} (h : z < 0) : remR q (D ++ [z]).reverse = solL q (D ++ [-z]) ++ remR q (D ++ [-z]).reverse := by
  rw [List.reverse_append, List.reverse_singleton, List.reverse_append, List.reverse_singleton]
  show (if z < 0 then solL q (D.reverse.reverse ++ [-z]) else []) ++ remR q D.reverse = _ ++ ((if -z < 0 then _ else []) ++ remR q D.reverse)
  rw [if_pos h, if_neg (by omega), List.reverse_reverse, List.nil_append]
theorem rem_second {q : Nat → Bool} {D : List Int} {z : Int} (h : ¬ z < 0) : remR q (D ++ [z]).reverse = remR q D.reverse := by
  rw [List.reverse_append, List.reverse_singleton]
  show (if z < 0 then _ else []) ++ remR q D.reverse = _
  rw [if_neg h, List.nil_append]
/-- How much a search has still to do. -/
def aV (m : Nat) : Nat := 2 ^ (15 - m) - 4
def muR : List Int → Nat
  | [] => 0
  | z :: R => (if z < 0 then aV (R.length + 1) + 2 else 1) + muR R
theorem aV_pos {m : Nat} (h : m ≤ 12) : 4 ≤ aV m := by
  unfold aV
  have h1 : 2 ^ 3 ≤ 2 ^ (15 - m) := Nat.pow_le_pow_right (by omega) (by omega)
  have h2 : (2 : Nat) ^ 3 = 8 := rfl
  omega
theorem aV_step {m : Nat} (h : m + 1 ≤ 12) : aV m = 2 * aV (m + 1) + 4 := by
  have h1 := aV_pos h
  unfold aV at h1 ⊢
  rw [show 15 - m = (15 - (m + 1)) + 1 by omega, Nat.pow_succ]
  omega
theorem mu_visit {D : List Int} {z : Int} (h : D.length + 1 ≤ 12) (hz : z < 0) : aV (D ++ [z]).length + muR (D ++ [z]).reverse < aV D.length + muR D.reverse := by
  rw [List.reverse_append, List.reverse_singleton, List.length_append, List.length_singleton]
  show aV (D.length + 1) + ((if z < 0 then aV (D.reverse.length + 1) + 2 else 1) + muR D.reverse) < _
  rw [if_pos hz, List.length_reverse, aV_step h]
  omega
theorem mu_first {D : List Int} {z : Int} (hz : z < 0) : aV (D ++ [-z]).length + muR (D ++ [-z]).reverse < muR (D ++ [z]).reverse := by
  rw [List.reverse_append, List.reverse_singleton, List.reverse_append, List.reverse_singleton, List.length_append, List.length_singleton]
  show aV (D.length + 1) + ((if -z < 0 then _ else 1) + muR D.reverse) < (if z < 0 then aV (D.reverse.length + 1) + 2 else 1) + muR D.reverse
  rw [if_pos hz, if_neg (by omega), List.length_reverse]
  omega
theorem mu_second {D : List Int} {z : Int} (hz : ¬ z < 0) : muR D.reverse < muR (D ++ [z]).reverse := by
  rw [List.reverse_append, List.reverse_singleton]
  show _ < (if z < 0 then _ else 1) + muR D.reverse
  rw [if_neg hz]
  omega
theorem solL_none (q : Nat → Bool) : solL q [] = (List.range 4096).filter q := by
  unfold solL
  congr 1
  funext k
  show (q k && true) = q k
  rw [Bool.and_true]
end Go.Proofs.Ytckaeaclclhapaa

namespace Go.Proofs.Ytckaeaclclhapaa
open Go.ChangeShapes Go.WideShapes Go.ChangeAt Go.RowKit

set_option maxHeartbeats 400000 in
theorem visit_nil (w : World) :
    Calls Try.prog 50 #[.pointer none] w fun e w' => e = .returned (.bool true) ∧ w' = w := by
  go_enter Try.func50, Try.ntmps50
  go_wp2
  go_ret
  exact ⟨rfl, rfl⟩
set_option maxHeartbeats 400000 in
theorem fail_nil (dv : Value) (w : World) :
    Calls Try.prog 55 #[.pointer none, dv] w fun e w' => e = .returned (.bool true) ∧ w' = w := by
  go_enter Try.func55, Try.ntmps55
  go_wp2
  go_ret
  exact ⟨rfl, rfl⟩

/-- Where the first zero stands among n ints. -/
def zeroAt (V : Nat → Int) (n : Nat) (m : Int) : Prop := (m = -1 ∧ ∀ i, i < n → V i ≠ 0) ∨ ∃ j : Nat, m = (j : Int) ∧ j < n ∧ V j = 0 ∧ ∀ i, i < j → V i ≠ 0
set_option maxRecDepth 100000 in
set_option maxHeartbeats 1600000 in
theorem indexZ_any (V : Nat → Int) (n : Nat) (A : Option Addr) (cap : Nat) (w : World) (hn : n ≤ 1048576) (hr : RdI w w.heap.size A n V) :
    Calls Try.prog 52 #[.slice A n cap, .int .i64 0] w fun e w' => ∃ m : Int, e = .returned (.int .i64 m) ∧ zeroAt V n m ∧ Below w.heap.size w w' := by
  go_enter Try.func52, Try.ntmps52
  go_wp2
  go_loopw [8] (fun i wr => ∃ k : Nat, k ≤ n ∧ i = .int .i64 k ∧ (∀ j, j < k → V j ≠ 0) ∧ Below w.heap.size w wr) (fun i _ => n - (intOf i).toNat)
  case atStart => exact ⟨0, Nat.zero_le _, rfl, fun j hj => absurd hj (by omega), Below.refl _ _⟩
  case round =>
    obtain ⟨k, hk, rfl, hp, hb⟩ := hrel
    have Hp := Lib.hid hp
    clear hp
    by_cases hlt : k < n
    · obtain ⟨b, off, rfl, hbl, hc⟩ := (hr.below hb) (by omega)
      have hc1 := hc k hlt
      clear hc hr
      have hlt' : (k : Int) < (n : Int) := by omega
      have hk0 : (0 : Int) ≤ (k : Int) := by omega
      obtain ⟨x, hx⟩ : ∃ x, V k = x := ⟨_, rfl⟩
      have HX := Lib.hid hx
      rw [hx] at hc1
      clear hx
      by_cases he : x = 0
      · subst he
        have HZ := Lib.hid (show zeroAt V n (k : Int) from .inr ⟨k, rfl, hlt, HX.out, Hp.out⟩)
        go_wp2_with fail
        try go_quiet (fail)
        try go_wp2
        go_ret
        exact ⟨_, rfl, HZ.out, by first | exact hb | exact bl_drewN hb _⟩
      · have Hy := Lib.hid (show ∀ j, j < k + 1 → V j ≠ 0 from fun j hj => by
          by_cases e : j = k
          · subst e; rw [HX.out]; exact he
          · exact Hp.out j (by omega))
        have he2 : ¬ (0 : Int) = x := fun h => he h.symm
        go_wp2_with fail
        try go_quiet (fail)
        try go_wp2
        go_roundw
        case rel => exact ⟨k + 1, by omega, by go_num, Hy.out, by first | exact hb | exact bl_drewN hb _⟩
        case measure => simp [intOf]; omega
    · have e : k = n := by omega
      subst e
      go_wp2
      go_ret
      exact ⟨-1, rfl, .inl ⟨rfl, Hp.out⟩, hb⟩

theorem cells12_get {w : World} {G : Nat} {T : TypeId} {v : Nat → Int} (h : w.heap[G]? = some (.cells (cells12 v) T (0, 0))) {i : Nat} (hi : i < 12) : w.cell? ⟨G, i, none⟩ = some (.int .i64 (v i)) := (cell_of_row w G _ _ _ _ h).trans (cells12_at v hi)

set_option maxRecDepth 100000 in
set_option maxHeartbeats 1600000 in
theorem values_of (V : Nat → Int) (w : World) :
    Calls Try.prog 54 #[arrV V] w fun e w' => ∃ G, e = .returned (.slice (some ⟨G, 0, none⟩) 12 12) ∧ w.heap.size ≤ G ∧ OwnB w' G 12 12 (fun i => decide (0 < V i)) ∧ Below w.heap.size w w' := by
  obtain ⟨i0, hi, hz0, hz1, hz2⟩ := info_parts Try.infoBool
  have hmk := fun W => run_make (P := Try.prog) W 74 4 i0 _ Try.underlying74 hi hz0 .i64 .i64 (12 : Int) 12 (by omega) (by omega) (by rw [hz2]; omega) (by omega)
  rw [hz1] at hmk
  clear hi hz0 hz1 hz2
  have hz : w.heap.size < (w.alloc (.cells (cells12 V) 94)).heap.size := by simp
  have hbx := heap_alloc_new w (.cells (cells12 V) 94)
  have HBx := Lib.hid hbx
  have HB0 := Lib.hid (bl_alloc (Below.refl w.heap.size w) (.cells (cells12 V) 94))
  clear hbx
  unfold arrV
  unfold cells12 at hz HBx HB0 ⊢
  go_enter Try.func54, Try.ntmps54
  go_upto_region 1 with fail
  generalize w.alloc (.cells _ _) = W0 at *
  go_wp2
  go_loopw [8] (fun i wr => ∃ k : Nat, k ≤ 12 ∧ i = .int .i64 k ∧ OwnB wr W0.heap.size 12 k (fun i => decide (0 < V i)) ∧ Below W0.heap.size W0 wr) (fun i _ => 12 - (intOf i).toNat)
  case atStart => exact ⟨0, Nat.zero_le _, rfl, ⟨_, heap_alloc_new _ _, by simp [size_madeCells], fun i hi => absurd hi (by omega)⟩, bl_alloc (Below.refl _ _) _⟩
  case round =>
    obtain ⟨k, hk, rfl, hown, hb⟩ := hrel
    by_cases hlt : k < 12
    · have hc1 := (hb.cell (p := ⟨w.heap.size, k, none⟩) (by show w.heap.size < W0.heap.size; omega)).trans (cells12_get (v := V) HBx.out hlt)
      clear hmk
      obtain ⟨y1, hy1⟩ := hown.cell hlt
      have hf1 := hown.frozen k
      have hlt' : (k : Int) < 12 := by omega
      have hk0 : (0 : Int) ≤ (k : Int) := by omega
      go_wp2
      go_roundw
      case rel => exact ⟨k + 1, by omega, by go_num, hown.put hlt, hb.setCell (Nat.le_refl _) _⟩
      case measure => simp [intOf]; omega
    · have e : k = 12 := by omega
      subst e
      have HOw := Lib.hid hown
      have HBe := Lib.hid hb
      clear hown hb
      go_wp2
      go_ret
      exact ⟨_, rfl, by omega, HOw.out, HB0.out.trans (HBe.out.mono (by omega))⟩
end Go.Proofs.Ytckaeaclclhapaa

namespace Go.Proofs.Ytckaeaclclhapaa
open Go.ChangeShapes Go.WideShapes Go.ChangeAt Go.RowKit

/-- The box of a search that keeps no record: its propagator, its decisions; false is tried first. -/
def BoxS (w : World) (S B : Nat) (dv : Value) : Prop := w.heap[S]? = some (.cells #[.pointer (some ⟨B, 0, none⟩), dv, .bool true, .pointer none] 82 (0, 0))
section
variable {w w' : World} {S B : Nat} {dv u : Value}
theorem BoxS.at_ (h : BoxS w S B dv) (hg : w'.heap[S]? = w.heap[S]?) : BoxS w' S B dv := hg.trans h
theorem BoxS.lt (h : BoxS w S B dv) : S < w.heap.size := by
  rcases Nat.lt_or_ge S w.heap.size with hlt | hge
  · exact hlt
  · unfold BoxS at h; rw [Array.getElem?_eq_none hge] at h; cases h
theorem BoxS.below (h : BoxS w S B dv) (hb : Below w.heap.size w w') : BoxS w' S B dv := h.at_ (hb.block S h.lt)
theorem BoxS.c0 (h : BoxS w S B dv) : w.cell? ⟨S, 0, none⟩ = some (.pointer (some ⟨B, 0, none⟩)) := (cell_of_row w S _ _ _ _ h).trans rfl
theorem BoxS.c1 (h : BoxS w S B dv) : w.cell? ⟨S, 1, none⟩ = some dv := (cell_of_row w S _ _ _ _ h).trans rfl
theorem BoxS.c2 (h : BoxS w S B dv) : w.cell? ⟨S, 2, none⟩ = some (.bool true) := (cell_of_row w S _ _ _ _ h).trans rfl
theorem BoxS.c3 (h : BoxS w S B dv) : w.cell? ⟨S, 3, none⟩ = some (.pointer none) := (cell_of_row w S _ _ _ _ h).trans rfl
theorem BoxS.fr (h : BoxS w S B dv) (j : Nat) : w.frozen? ⟨S, j, none⟩ = false := by
  have h' : w.heap[S]? = some (.cells #[.pointer (some ⟨B, 0, none⟩), dv, .bool true, .pointer none] 82 (0, 0)) := h
  simp [World.frozen?, h']
theorem BoxS.set1 (h : BoxS w S B dv) : BoxS (w.setCell ⟨S, 1, none⟩ u) S B u := by
  have h' : w.heap[S]? = some (.cells #[.pointer (some ⟨B, 0, none⟩), dv, .bool true, .pointer none] 82 (0, 0)) := h
  simp [BoxS, World.setCell, Array.getElem?_modify, h']
theorem BoxS.far (h : BoxS w S B dv) {p : Addr} (hp : S ≠ p.block) (u : Value) : BoxS (w.setCell p u) S B dv := h.at_ (Below.heap_setCell w p u S hp)
end

/-- The row of the decisions, in a block from N on. -/
def DecR (w : World) (N : Nat) (dv : Value) (D : List Int) : Prop := w.ownsRow N 58 1 dv D.length (D.map vI)
section
variable {w w' : World} {N : Nat} {dv : Value} {D : List Int} {z : Int}
theorem DecR.below (h : DecR w N dv D) (hb : Below w.heap.size w w') : DecR w' N dv D := row_below' h hb
theorem DecR.nil (w : World) (N : Nat) : DecR w N (.slice none 0 0) [] := World.ownsRow_nil _ _ _ _
theorem DecR.cases_ (h : DecR w N dv D) : (dv = .slice none 0 0 ∧ D = []) ∨ ∃ g cap cur, dv = .slice (some ⟨g, 0, none⟩) D.length cap ∧ N ≤ g ∧ w.heap[g]? = some (.cells cur 58 (0, 0)) ∧ D.length ≤ cap ∧ cap ≤ maxLen ∧ cur.size = cap ∧ cur.toList.take D.length = D.map vI := by
  rcases h.2 with ⟨e, h0⟩ | ⟨g, cap, cur, e, h1, h2, h3, h4, h5, h6⟩
  · exact .inl ⟨e, List.eq_nil_of_length_eq_zero h0⟩
  · exact .inr ⟨g, cap, cur, e, h1, h2, h3, h4, by rw [Nat.mul_one] at h5; exact h5, by rw [Nat.mul_one] at h6; exact h6⟩
theorem DecR.mk_ {g cap : Nat} {cur : Array Value} (h1 : N ≤ g) (h2 : w.heap[g]? = some (.cells cur 58 (0, 0))) (h3 : D.length ≤ cap) (h4 : cap ≤ maxLen) (h5 : cur.size = cap) (h6 : cur.toList.take D.length = D.map vI) : DecR w N (.slice (some ⟨g, 0, none⟩) D.length cap) D :=
  ⟨by simp, .inr ⟨g, cap, cur, rfl, h1, h2, h3, h4, by rw [Nat.mul_one]; exact h5, by rw [Nat.mul_one]; exact h6⟩⟩
theorem DecR.cell (h : DecR w N dv D) {i : Nat} (hi : i < D.length) : ∃ g cap, dv = .slice (some ⟨g, 0, none⟩) D.length cap ∧ w.cell? ⟨g, i, none⟩ = some (.int .i64 (D.getD i 0)) ∧ w.frozen? ⟨g, i, none⟩ = false ∧ D.length ≤ cap ∧ cap ≤ maxLen := by
  rcases h.cases_ with ⟨_, e⟩ | ⟨g, cap, cur, e, h1, h2, h3, h4, h5, h6⟩
  · rw [e] at hi; cases hi
  · refine ⟨g, cap, e, ?_, by simp [World.frozen?, h2], h3, h4⟩
    refine (cell_of_row w g _ _ _ _ h2).trans ?_
    have hx : (D.map vI)[i]? = some (vI (D.getD i 0)) := by
      rw [List.getElem?_map, List.getElem?_eq_getElem hi]
      simp [List.getD, List.getElem?_eq_getElem hi]
    rw [← h6, List.getElem?_take_of_lt hi] at hx
    simpa [vI] using hx
/-- The last decision turned. -/
theorem DecR.flip {g cap : Nat} (h : DecR w N (.slice (some ⟨g, 0, none⟩) (D.length + 1) cap) (D ++ [z])) : DecR (w.setCell ⟨g, D.length, none⟩ (.int .i64 (-z))) N (.slice (some ⟨g, 0, none⟩) (D.length + 1) cap) (D ++ [-z]) := by
  have hl : ∀ y : Int, (D ++ [y]).length = D.length + 1 := fun y => by simp
  rcases h.cases_ with ⟨e, _⟩ | ⟨g', cap', cur, e, h1, h2, h3, h4, h5, h6⟩
  · cases e
  · rw [hl] at h3 h6 e
    injection e with e1 _ e3
    injection e1 with e4
    injection e4 with e5
    subst e5
    subst e3
    have hset : (w.setCell ⟨g, D.length, none⟩ (.int .i64 (-z))).heap[g]? = some (.cells (cur.setIfInBounds D.length (.int .i64 (-z))) 58 (0, 0)) := by
      simp [World.setCell, Array.getElem?_modify, h2]
    have := DecR.mk_ (w := w.setCell ⟨g, D.length, none⟩ (.int .i64 (-z))) (N := N) (D := D ++ [-z]) (cap := cap) h1 hset (by rw [hl]; exact h3) h4 (by simpa using h5) (by
      rw [hl]
      have e1 : (cur.setIfInBounds D.length (.int .i64 (-z))).toList = cur.toList.set D.length (.int .i64 (-z)) := by simp
      rw [e1, List.take_set, h6, List.map_append, List.map_append, List.set_append_right _ _ (by simp)]
      simp [vI])
    rw [hl] at this
    exact this
/-- The last decision taken back. -/
theorem DecR.cut {g cap : Nat} (h : DecR w N (.slice (some ⟨g, 0, none⟩) (D.length + 1) cap) (D ++ [z])) : DecR w N (.slice (some ⟨g, 0, none⟩) D.length cap) D := by
  rcases h.cases_ with ⟨e, _⟩ | ⟨g', cap', cur, e, h1, h2, h3, h4, h5, h6⟩
  · cases e
  · have hl : (D ++ [z]).length = D.length + 1 := by simp
    rw [hl] at h3 h6 e
    injection e with e1 _ e3
    injection e1 with e4
    injection e4 with e5
    subst e5
    subst e3
    refine DecR.mk_ h1 h2 (by omega) h4 h5 ?_
    have h7 := congrArg (List.take D.length) h6
    rw [List.take_take, Nat.min_eq_left (by omega), List.map_append, List.take_left' (by simp)] at h7
    exact h7
end
set_option maxRecDepth 100000 in
set_option maxHeartbeats 800000 in
/-- One more decision. -/
theorem wp_dec1 {o : Oper} {a : Act} {K : Act → World → Prop} {Q : Exit → Act → World → Prop} {W : World} {N : Nat} {dv : Value} {D : List Int} {z : Int} (s x : Operand)
    (ho : o.op = .call { callee := .builtin .append, args := #[s, x], argTypes := #[78, 78] })
    (h : DecR W N dv D) (hN : N ≤ W.heap.size) (hs : a.eval s = dv) {H : Nat} (hx : a.eval x = .slice (some ⟨H, 0, none⟩) 1 1) {T' : TypeId} (hnew : W.heap[H]? = some (.cells #[.int .i64 z] T' (0, 0))) (hk : D.length ≤ 1000)
    (hK : ∀ g cap' w', DecR w' N (.slice (some ⟨g, 0, none⟩) (D.length + 1) cap') (D ++ [z]) → W.grownBy w' dv.ownBlock → K (a.put o.dst (.slice (some ⟨g, 0, none⟩) (D.length + 1) cap')) w') :
    o.wp Try.prog a W K Q := by
  obtain ⟨i0, hi, hz0, hz1, hz2⟩ := info_parts Try.infoLit
  refine wp_append_lies _ s x 78 ho N 58 i0 _ 1 8 Try.underlying78 hi hz0 hz1 hz2 rfl (by omega) dv D.length _ hs h ⟨H, 0, none⟩ 1 1 [.int .i64 z] hx (by rfl)
    (World.news_of_block hnew) (by simp [Value.oneCell']) (by omega) (by unfold maxLen; omega) (by omega) hN W.heap.size rfl ?_
  intro g cap' w' hown hg _ _
  refine hK _ _ w' ?_ hg
  unfold DecR
  rw [List.length_append, List.map_append]
  exact hown

theorem below_cells {n b : Nat} (hn : n ≤ b) {w0 : World} : ∀ (vs : List Value) (o : Nat) (w : World), Below n w0 w → Below n w0 (w.setCells b o vs) := by
  intro vs
  induction vs with
  | nil => intro o w h; exact h
  | cons v vs ih => intro o w h; exact ih (o + 1) _ (h.setCell (p := ⟨b, o, none⟩) hn v)
/-- The twelve cells of a result are there still. -/
theorem there12 {w w2 : World} {R : Nat} {cs : Array Value} {T : TypeId} (h : w.heap[R]? = some (.cells cs T (0, 0))) (hs : 12 ≤ cs.size) (hb : Below w.heap.size w w2) : w2.there R 0 12 := fun j hj => by
  have hlt : R < w.heap.size := (Array.getElem?_eq_some_iff.1 h).1
  have h1 := (hb.block R hlt).trans h
  rw [Nat.zero_add]
  exact ⟨by rw [cell_of_row w2 R j _ _ _ h1, Array.getElem?_eq_getElem (by omega)]; rfl, by simp [World.frozen?, h1]⟩
/-- What the decisions' row reads. -/
theorem DecR.rd {w : World} {N : Nat} {dv : Value} {D : List Int} (h : DecR w N dv D) : ∃ A cap, dv = .slice A D.length cap ∧ RdI w w.heap.size A D.length (fun i => D.getD i 0) := by
  rcases h.cases_ with ⟨e, e2⟩ | ⟨g, cap, cur, e, h1, h2, _⟩
  · exact ⟨none, 0, by rw [e, e2]; rfl, fun hn => by rw [e2] at hn; cases hn⟩
  · refine ⟨_, cap, e, fun _ => ⟨g, 0, rfl, ?_, fun i hi => ?_⟩⟩
    · rcases Nat.lt_or_ge g w.heap.size with hlt | hge
      · exact hlt
      · rw [Array.getElem?_eq_none hge] at h2; cases h2
    · obtain ⟨g', cap', e', hc, _⟩ := h.cell hi
      rw [e] at e'
      cases e'
      rw [Nat.zero_add]
      exact hc
theorem OwnV.turnI {w : World} {G n : Nat} {T : TypeId} {v v' : Nat → Int} {j : Nat} {z : Int} (h : OwnV w G T n n v) (hj : j < n) (hv : ∀ i, i < n → v' i = if i = j then z else v i) : OwnV (w.setCell ⟨G, j, none⟩ (.int .i64 z)) G T n n v' := by
  obtain ⟨cs, hh, h1, h2⟩ := h
  refine ⟨cs.setIfInBounds j (.int .i64 z), by simp [World.setCell, Array.getElem?_modify, hh], by simp [h1], fun i hi => ?_⟩
  rw [Array.getElem?_setIfInBounds, hv i hi]
  by_cases e : j = i
  · subst e
    rw [if_pos rfl, if_pos (by omega), if_pos rfl]
  · rw [if_neg e, if_neg (by omega)]
    exact h2 i hi
theorem take_one {D : List Int} {k : Nat} (hk : k < D.length) : D.take (k + 1) = D.take k ++ [D.getD k 0] := by
  rw [List.take_succ_eq_append_getElem hk]
  simp [List.getD, List.getElem?_eq_getElem hk]
theorem getD_mem {D : List Int} {k : Nat} (hk : k < D.length) : D.getD k 0 ∈ D := by
  simp [List.getD, List.getElem?_eq_getElem hk]

set_option maxRecDepth 100000 in
set_option maxHeartbeats 3200000 in
theorem propDec_any (S B N : Nat) (dv : Value) (D : List Int) (lo : Nat → Prop) (m : Nat) (lv : Value) (p : Nat → Con) (uv : Nat → Value) (w : World) (hm : m ≤ 1400) (hok : ∀ i, i < m → okC (p i) ∧ (p i).n ≤ 1048576) (hD : okDV D)
    (hS : BoxS w S B dv) (hR : DecR w N dv D) (hPg : Pg w lo B lv m m p (fun i => slkC (p i) z0) (usP p m) uv) :
    Calls Try.prog 51 #[.pointer (some ⟨S, 0, none⟩)] w fun e w' => ∃ V r, e = .returned (.tuple #[arrV V, .int .i64 r]) ∧ Runs p m 0 (asgL z0 D) V r ∧ rng V ∧ Below w.heap.size w w' := by
  have hlen := okD_len hD
  have HOk := Lib.hid hok
  have HD := Lib.hid hD
  have HPg := Lib.hid hPg
  obtain ⟨A, cap, hdv, hrd⟩ := hR.rd
  subst hdv
  have HRd := Lib.hid hrd
  have HSw := hS.lt
  have HS := Lib.hid hS
  clear hok hD hPg hrd hR hS
  go_enter Try.func51, Try.ntmps51
  go_upto_region 2 with fail
  have hs := start12 w z0 94
  have hfst : ((w.alloc (.cells (cells12 z0) 94)).alloc (.cells (cells12 z0) 94)).heap[w.heap.size]? = some (.cells (cells12 z0) 94 (0, 0)) := (Below.heap_alloc _ _ _ (by simp)).trans (heap_alloc_new w _)
  simp only [cells12, z0] at hs hfst
  generalize (World.alloc (World.alloc w _) _) = W1 at hs hfst ⊢
  obtain ⟨hb1, hr3, h4, hsz⟩ := hs
  have HB1 := Lib.hid hb1
  have HOw := Lib.hid (show OwnV W1 (w.heap.size + 1) 94 12 12 (asgL z0 (D.take 0)) from ⟨_, h4, Nat.le_refl _, fun i hi => cells12_at z0 hi⟩)
  have HR3 := Lib.hid hfst
  have HSz := Lib.hid hsz
  have hW1 : w.heap.size + 1 < W1.heap.size := by omega
  have hd1 := HS.out.below hb1
  have x1 := hd1.c1
  clear h4 hr3 hb1 hsz hd1 hfst
  go_wp2
  clear x1
  go_loopw [12] (fun i wr => ∃ k : Nat, k ≤ D.length ∧ i = .int .i64 k ∧ OwnV wr (w.heap.size + 1) 94 12 12 (asgL z0 (D.take k)) ∧ Below (w.heap.size + 1) W1 wr) (fun i _ => D.length - (intOf i).toNat)
  case atStart => exact ⟨0, Nat.zero_le _, rfl, HOw.out, Below.refl _ _⟩
  case round =>
    obtain ⟨k, hk, rfl, hown, hb⟩ := hrel
    have HO := Lib.hid hown
    have HB := Lib.hid hb
    clear hown hb HOw
    by_cases hlt : k < D.length
    · obtain ⟨b, off, rfl, hbl, hc⟩ := HRd.out (by omega)
      have hck := (HB.out.cell (p := ⟨b, off + k, none⟩) (by show b < w.heap.size + 1; omega)).trans (kc HB1.out (hc k hlt))
      obtain ⟨z, hz⟩ : ∃ z, D.getD k 0 = z := ⟨_, rfl⟩
      have HZ := Lib.hid (show litB z = true from hz ▸ HD.out.1 _ (getD_mem hlt))
      have HT := Lib.hid (show D.take (k + 1) = D.take k ++ [z] from hz ▸ take_one hlt)
      simp only [hz] at hck
      clear hc hz
      go_wp2_with fail
      refine (ptMake_any (w.heap.size + 1) 0 z wr HZ.out (fun i hi => by rw [Nat.zero_add]; exact HO.out.cell hi) (fun i hi => by rw [Nat.zero_add]; exact HO.out.frozen i)).mono ?_
      rintro e w2 ⟨rfl, hw2⟩
      have hvx := (vix_lt HZ.out).1
      have HO2 := Lib.hid (show OwnV w2 (w.heap.size + 1) 94 12 12 (asgL z0 (D.take (k + 1))) from by
        rw [hw2, HT.out, asgL_snoc, asg_vix HZ.out, Nat.zero_add]
        exact (HO.out.turnI (z := sgn1 z) hvx (fun _ _ => rfl)).at_ rfl)
      have HB2 := Lib.hid (show Below (w.heap.size + 1) W1 w2 from by
        rw [hw2]
        exact (HB.out.setCell (p := ⟨w.heap.size + 1, _, none⟩) (Nat.le_refl _) _).drew)
      clear hw2 hck
      go_wp2
      go_roundw
      case rel => exact ⟨k + 1, by omega, by go_num, HO2.out, HB2.out⟩
      case measure => simp [intOf]; omega
    · have e : k = D.length := by omega
      subst e
      rw [List.take_length] at HO
      have hrv := asgL_rng rng_z0 D
      have htl := asgL_tail D z0 HD.out.1 (fun _ _ => rfl)
      obtain ⟨v, hv⟩ : ∃ v, asgL z0 D = v := ⟨_, rfl⟩
      have HV := Lib.hid hv
      rw [hv] at HO hrv htl
      have HRv := Lib.hid hrv
      have HTl := Lib.hid htl
      have hbw : Below w.heap.size w wr := HB1.out.trans (HB.out.mono (by omega))
      have HBw := Lib.hid hbw
      have c0 := (HS.out.below hbw).c0
      have HPr := Lib.hid (HPg.out.below hbw)
      have s0 : wr.rangeAt (w.heap.size + 1) 0 (cl12 v) := range12 (v := v) fun i hi => by
        obtain ⟨cs, hh, _, h2⟩ := HO.out
        rw [Nat.zero_add]
        exact (cell_of_row wr _ _ cs _ _ hh).trans (h2 i hi)
      have hu := Try.underlying94
      have hsz12 : (Try.prog.info? 94).map (·.size) = some (cl12 v).length := by kernel_rfl
      have HRr := Lib.hid ((HB.out.block w.heap.size (by omega)).trans HR3.out)
      have hzw : w.heap.size + 1 < wr.heap.size := Nat.lt_of_lt_of_le hW1 HB.out.size
      clear hrv htl hv hbw HB HRd HR3 HSz
      go_wp2_with fail
      go_region_held3 (fun w' => w'.cell? ⟨S, 0, none⟩ = some (.pointer (some ⟨B, 0, none⟩)) ∧ w'.rangeAt (w.heap.size + 1) 0 (cl12 v)) (first | go_keep | exact ⟨(World.cell?_setCells_out _ _ _ _ _ (fun e _ => by have e' : S = w.heap.size := e; omega)).trans c0, World.rangeAt_setCells_apart s0 _ _ _ (.inl (by omega))⟩)
        (first | (go_at_call 58; refine (pgProp_any B lo m lv p uv v _ hm HOk.out HRv.out HTl.out (HPr.out.below ((Below.refl wr.heap.size wr).drew))).mono ?_; rintro e w2 ⟨V, r, rfl, hruns, hrngV, hb⟩; have HB2 := Lib.hid (bl_trans ((Below.refl wr.heap.size wr).drew) hb); have HRuns := Lib.hid hruns; have HRng := Lib.hid hrngV; replace c0 := kc hb c0; replace s0 := range_kc hb s0; have hone : ∀ u : Value, u ∈ ([.int .i64 (V 0), .int .i64 (V 1), .int .i64 (V 2), .int .i64 (V 3), .int .i64 (V 4), .int .i64 (V 5), .int .i64 (V 6), .int .i64 (V 7), .int .i64 (V 8), .int .i64 (V 9), .int .i64 (V 10), .int .i64 (V 11)] : List Value) → u.oneCell' = true := (by intro u hu; simp only [List.mem_cons, List.not_mem_nil, or_false] at hu; rcases hu with rfl | rfl | rfl | rfl | rfl | rfl | rfl | rfl | rfl | rfl | rfl | rfl <;> rfl); have hth : w2.there w.heap.size 0 ([.int .i64 (V 0), .int .i64 (V 1), .int .i64 (V 2), .int .i64 (V 3), .int .i64 (V 4), .int .i64 (V 5), .int .i64 (V 6), .int .i64 (V 7), .int .i64 (V 8), .int .i64 (V 9), .int .i64 (V 10), .int .i64 (V 11)] : List Value).length := (there12 HRr.out (Nat.le_refl _) HB2.out); clear hb hruns hrngV))
      have HTh := Lib.hid hth
      clear hone c0 s0 hth
      go_wp2
      have hr := World.rangeAt_setCells_same w2 w.heap.size 0 [.int .i64 (V 0), .int .i64 (V 1), .int .i64 (V 2), .int .i64 (V 3), .int .i64 (V 4), .int .i64 (V 5), .int .i64 (V 6), .int .i64 (V 7), .int .i64 (V 8), .int .i64 (V 9), .int .i64 (V 10), .int .i64 (V 11)] HTh.out
      have r0 : (w2.setCells w.heap.size 0 [.int .i64 (V 0), .int .i64 (V 1), .int .i64 (V 2), .int .i64 (V 3), .int .i64 (V 4), .int .i64 (V 5), .int .i64 (V 6), .int .i64 (V 7), .int .i64 (V 8), .int .i64 (V 9), .int .i64 (V 10), .int .i64 (V 11)]).cell? ⟨w.heap.size, 0, none⟩ = some (.int .i64 (V 0)) := hr 0 _ rfl
      have r1 : (w2.setCells w.heap.size 0 [.int .i64 (V 0), .int .i64 (V 1), .int .i64 (V 2), .int .i64 (V 3), .int .i64 (V 4), .int .i64 (V 5), .int .i64 (V 6), .int .i64 (V 7), .int .i64 (V 8), .int .i64 (V 9), .int .i64 (V 10), .int .i64 (V 11)]).cell? ⟨w.heap.size, 1, none⟩ = some (.int .i64 (V 1)) := hr 1 _ rfl
      have r2 : (w2.setCells w.heap.size 0 [.int .i64 (V 0), .int .i64 (V 1), .int .i64 (V 2), .int .i64 (V 3), .int .i64 (V 4), .int .i64 (V 5), .int .i64 (V 6), .int .i64 (V 7), .int .i64 (V 8), .int .i64 (V 9), .int .i64 (V 10), .int .i64 (V 11)]).cell? ⟨w.heap.size, 2, none⟩ = some (.int .i64 (V 2)) := hr 2 _ rfl
      have r3 : (w2.setCells w.heap.size 0 [.int .i64 (V 0), .int .i64 (V 1), .int .i64 (V 2), .int .i64 (V 3), .int .i64 (V 4), .int .i64 (V 5), .int .i64 (V 6), .int .i64 (V 7), .int .i64 (V 8), .int .i64 (V 9), .int .i64 (V 10), .int .i64 (V 11)]).cell? ⟨w.heap.size, 3, none⟩ = some (.int .i64 (V 3)) := hr 3 _ rfl
      have r4 : (w2.setCells w.heap.size 0 [.int .i64 (V 0), .int .i64 (V 1), .int .i64 (V 2), .int .i64 (V 3), .int .i64 (V 4), .int .i64 (V 5), .int .i64 (V 6), .int .i64 (V 7), .int .i64 (V 8), .int .i64 (V 9), .int .i64 (V 10), .int .i64 (V 11)]).cell? ⟨w.heap.size, 4, none⟩ = some (.int .i64 (V 4)) := hr 4 _ rfl
      have r5 : (w2.setCells w.heap.size 0 [.int .i64 (V 0), .int .i64 (V 1), .int .i64 (V 2), .int .i64 (V 3), .int .i64 (V 4), .int .i64 (V 5), .int .i64 (V 6), .int .i64 (V 7), .int .i64 (V 8), .int .i64 (V 9), .int .i64 (V 10), .int .i64 (V 11)]).cell? ⟨w.heap.size, 5, none⟩ = some (.int .i64 (V 5)) := hr 5 _ rfl
      have r6 : (w2.setCells w.heap.size 0 [.int .i64 (V 0), .int .i64 (V 1), .int .i64 (V 2), .int .i64 (V 3), .int .i64 (V 4), .int .i64 (V 5), .int .i64 (V 6), .int .i64 (V 7), .int .i64 (V 8), .int .i64 (V 9), .int .i64 (V 10), .int .i64 (V 11)]).cell? ⟨w.heap.size, 6, none⟩ = some (.int .i64 (V 6)) := hr 6 _ rfl
      have r7 : (w2.setCells w.heap.size 0 [.int .i64 (V 0), .int .i64 (V 1), .int .i64 (V 2), .int .i64 (V 3), .int .i64 (V 4), .int .i64 (V 5), .int .i64 (V 6), .int .i64 (V 7), .int .i64 (V 8), .int .i64 (V 9), .int .i64 (V 10), .int .i64 (V 11)]).cell? ⟨w.heap.size, 7, none⟩ = some (.int .i64 (V 7)) := hr 7 _ rfl
      have r8 : (w2.setCells w.heap.size 0 [.int .i64 (V 0), .int .i64 (V 1), .int .i64 (V 2), .int .i64 (V 3), .int .i64 (V 4), .int .i64 (V 5), .int .i64 (V 6), .int .i64 (V 7), .int .i64 (V 8), .int .i64 (V 9), .int .i64 (V 10), .int .i64 (V 11)]).cell? ⟨w.heap.size, 8, none⟩ = some (.int .i64 (V 8)) := hr 8 _ rfl
      have r9 : (w2.setCells w.heap.size 0 [.int .i64 (V 0), .int .i64 (V 1), .int .i64 (V 2), .int .i64 (V 3), .int .i64 (V 4), .int .i64 (V 5), .int .i64 (V 6), .int .i64 (V 7), .int .i64 (V 8), .int .i64 (V 9), .int .i64 (V 10), .int .i64 (V 11)]).cell? ⟨w.heap.size, 9, none⟩ = some (.int .i64 (V 9)) := hr 9 _ rfl
      have r10 : (w2.setCells w.heap.size 0 [.int .i64 (V 0), .int .i64 (V 1), .int .i64 (V 2), .int .i64 (V 3), .int .i64 (V 4), .int .i64 (V 5), .int .i64 (V 6), .int .i64 (V 7), .int .i64 (V 8), .int .i64 (V 9), .int .i64 (V 10), .int .i64 (V 11)]).cell? ⟨w.heap.size, 10, none⟩ = some (.int .i64 (V 10)) := hr 10 _ rfl
      have r11 : (w2.setCells w.heap.size 0 [.int .i64 (V 0), .int .i64 (V 1), .int .i64 (V 2), .int .i64 (V 3), .int .i64 (V 4), .int .i64 (V 5), .int .i64 (V 6), .int .i64 (V 7), .int .i64 (V 8), .int .i64 (V 9), .int .i64 (V 10), .int .i64 (V 11)]).cell? ⟨w.heap.size, 11, none⟩ = some (.int .i64 (V 11)) := hr 11 _ rfl
      have hbf : Below w.heap.size w (w2.setCells w.heap.size 0 [.int .i64 (V 0), .int .i64 (V 1), .int .i64 (V 2), .int .i64 (V 3), .int .i64 (V 4), .int .i64 (V 5), .int .i64 (V 6), .int .i64 (V 7), .int .i64 (V 8), .int .i64 (V 9), .int .i64 (V 10), .int .i64 (V 11)]) := by
        exact below_cells (Nat.le_refl _) _ _ _ (HBw.out.trans (HB2.out.mono HBw.out.size))
      clear hr
      generalize w2.setCells w.heap.size 0 [.int .i64 (V 0), .int .i64 (V 1), .int .i64 (V 2), .int .i64 (V 3), .int .i64 (V 4), .int .i64 (V 5), .int .i64 (V 6), .int .i64 (V 7), .int .i64 (V 8), .int .i64 (V 9), .int .i64 (V 10), .int .i64 (V 11)] = W6 at *
      refine bodyPost_ret (v := .tuple #[.agg #[.int .i64 (V 0), .int .i64 (V 1), .int .i64 (V 2), .int .i64 (V 3), .int .i64 (V 4), .int .i64 (V 5), .int .i64 (V 6), .int .i64 (V 7), .int .i64 (V 8), .int .i64 (V 9), .int .i64 (V 10), .int .i64 (V 11)], .int .i64 r]) (by simp [results, Try.results51, go_sem, r0, r1, r2, r3, r4, r5, r6, r7, r8, r9, r10, r11]) rfl ?_
      exact ⟨V, r, rfl, HV.out ▸ HRuns.out, HRng.out, hbf⟩
end Go.Proofs.Ytckaeaclclhapaa

namespace Go.Proofs.Ytckaeaclclhapaa
open Go.ChangeShapes Go.WideShapes Go.ChangeAt Go.RowKit

/-- As Q; by a goto to one of the labels 0 and 1: J. -/
def Exit.jumps2 (J : Nat → Act → World → Prop) (Q : Exit → Act → World → Prop) : Exit → Act → World → Prop
  | .goto l, a, w => (l = 0 ∨ l = 1) ∧ J l a w
  | e, a, w => Q e a w
theorem Exit.jumps2_mono {J J' : Nat → Act → World → Prop} {Q : Exit → Act → World → Prop} (h : ∀ l a w, J l a w → J' l a w) : ∀ e a w, Exit.jumps2 J Q e a w → Exit.jumps2 J' Q e a w := fun e a w he => by
  cases e with
  | goto l => exact ⟨he.1, h _ _ _ he.2⟩
  | _ => exact he
section
variable {P : Program} {a : Act} {w : World} {Q : Exit → Act → World → Prop}
/-- A scope into which the run goes ahead of two labels, the second behind the first; J n holds at every jump and at the first label, and every pass lowers n. -/
theorem wp_scope_two {A B X Y : Code} (J : Nat → Nat → Act → World → Prop) (hA : findLabel A 0 = none) (hA1 : findLabel A 1 = none) (hB : findLabel B 0 = none) (hB1 : findLabel B 1 = none) (hX : findLabel X 1 = some (.seq .skip Y))
    (h0 : A.wp P (Exit.then (B.wp P (Exit.then (fun a w => ∃ n, J 0 n a w) (Exit.noGoto Q))) (Exit.noGoto Q)) a w)
    (hC : ∀ n a w, J 1 n a w → Y.wp P (Exit.jumps2 (fun l a' w' => ∃ n', n' < n ∧ J l n' a' w') Q) a w)
    (hV : (∀ n a w, J 1 n a w → Y.wp P (Exit.jumps2 (fun l a' w' => ∃ n', n' < n ∧ J l n' a' w') Q) a w) → ∀ n a w, J 0 n a w → X.wp P (Exit.jumps2 (fun l a' w' => ∃ n', n' < n ∧ J l n' a' w') Q) a w) :
    (Code.scope (.seq A (.seq B (.seq (.label 0) X)))).wp P Q a w := by
  obtain ⟨c, hc⟩ : ∃ c, Code.seq A (.seq B (.seq (.label 0) X)) = c := ⟨_, rfl⟩
  have f0 : findLabel c 0 = some (.seq .skip X) := by rw [← hc]; simp [findLabel, hA, hB]
  have f1 : findLabel c 1 = some (.seq .skip Y) := by rw [← hc]; simp [findLabel, hA1, hB1, hX]
  have pass : ∀ l, (l = 0 ∨ l = 1) → ∃ rest, findLabel c l = some rest ∧ ∀ n a w, J l n a w → rest.wp P (Exit.jumps2 (fun l' a' w' => ∃ n', n' < n ∧ J l' n' a' w') Q) a w := by
    rintro l (rfl | rfl)
    · exact ⟨_, f0, fun n a w h => wp_seq (wp_skip (hV hC n a w h))⟩
    · exact ⟨_, f1, fun n a w h => wp_seq (wp_skip (hC n a w h))⟩
  have first : c.wp P (Exit.jumps2 (fun l a w => ∃ n, J l n a w) Q) a w := by
    rw [← hc]
    have hn : ∀ e a w, Exit.noGoto Q e a w → Exit.jumps2 (fun l a w => ∃ n, J l n a w) Q e a w := fun e a w he => by
      cases e with
      | goto l => exact he.elim
      | _ => exact he
    refine wp_seq (wp_mono h0 fun e a w he => ?_)
    cases e with
    | normal =>
      refine wp_seq (wp_mono he fun e a w he => ?_)
      cases e with
      | normal =>
        obtain ⟨n, hj⟩ := he
        exact wp_seq (wp_label (wp_mono (hV hC n a w hj) (Exit.jumps2_mono fun l a w ⟨n', _, h⟩ => ⟨n', h⟩)))
      | exit id => exact hn (.exit id) a w he
      | goto l => exact hn (.goto l) a w he
      | ret => exact hn .ret a w he
      | panic ch => exact hn (.panic ch) a w he
      | outgrown => exact hn .outgrown a w he
    | exit id => exact hn (.exit id) a w he
    | goto l => exact hn (.goto l) a w he
    | ret => exact hn .ret a w he
    | panic ch => exact hn (.panic ch) a w he
    | outgrown => exact hn .outgrown a w he
  clear hC hV h0 hA hA1 hB hB1 hX
  clear f0 f1
  intro b k cs
  have hg : ∀ l rest, findLabel c l = some rest → gotoIn l (.inScope c :: k) = some (.code rest :: .inScope c :: k) := fun l rest h => by simp [gotoIn, h]
  have key : ∀ n l rest a w, (∀ n a w, J l n a w → rest.wp P (Exit.jumps2 (fun l' a' w' => ∃ n', n' < n ∧ J l' n' a' w') Q) a w) → J l n a w → ∃ e a' w', Q e a' w' ∧ Arrives P (lone (b.at a (.code rest :: .inScope c :: k)) cs w) b k cs e a' w' := by
    intro n
    induction n using Nat.strongRecOn with
    | _ n ih =>
      intro l rest a w hr hJ
      obtain ⟨e, a₁, w₁, hq, harr⟩ := hr n a w hJ b (.inScope c :: k) cs
      cases e with
      | normal => exact ⟨.normal, a₁, w₁, hq, Steps.trans harr (.one step_inScope)⟩
      | exit id => exact ⟨.exit id, a₁, w₁, hq, fun k' hk => harr k' (by simp [exitTo, hk])⟩
      | goto l' =>
        obtain ⟨hl, n', hlt, hJ'⟩ := hq
        obtain ⟨rest', hf', hr'⟩ := pass l' hl
        obtain ⟨e₂, a₂, w₂, hq₂, harr₂⟩ := ih n' hlt l' rest' a₁ w₁ hr' hJ'
        exact ⟨e₂, a₂, w₂, hq₂, .of_steps (harr _ (hg l' rest' hf')) harr₂⟩
      | ret => exact ⟨_, a₁, w₁, hq, harr⟩
      | panic ch => exact ⟨_, a₁, w₁, hq, harr⟩
      | outgrown => exact ⟨_, a₁, w₁, hq, harr⟩
  rw [hc]
  obtain ⟨e, a₁, w₁, hq, harr⟩ := first b (.inScope c :: k) cs
  cases e with
  | normal => exact ⟨.normal, a₁, w₁, hq, .head step_scope (Steps.trans harr (.one step_inScope))⟩
  | exit id => exact ⟨.exit id, a₁, w₁, hq, fun k' hk => .head step_scope (harr k' (by simp [exitTo, hk]))⟩
  | goto l' =>
    obtain ⟨hl, n', hJ'⟩ := hq
    obtain ⟨rest', hf', hr'⟩ := pass l' hl
    obtain ⟨e₂, a₂, w₂, hq₂, harr₂⟩ := key n' l' rest' a₁ w₁ hr' hJ'
    exact ⟨e₂, a₂, w₂, hq₂, .of_steps (.head step_scope (harr _ (hg l' rest' hf'))) harr₂⟩
  | ret => exact ⟨_, a₁, w₁, hq, .of_steps (.one step_scope) harr⟩
  | panic ch => exact ⟨_, a₁, w₁, hq, .of_steps (.one step_scope) harr⟩
  | outgrown => exact ⟨_, a₁, w₁, hq, .of_steps (.one step_scope) harr⟩
end

/-- A row of decisions; or such a row or values. -/
def isDec (N k : Nat) (o : Obj) : Prop := N ≤ k ∧ ∃ cs fr, o = .cells cs 58 fr
def isOwn (N k : Nat) (o : Obj) : Prop := isDec N k o ∨ (N ≤ k ∧ ∃ cs fr, o = .cells cs 94 fr)
/-- Nothing that lay has turned but the box S and what E says. -/
structure Ms (E : Nat → Obj → Prop) (S : Nat) (A B : World) : Prop where
  os : B.os = A.os
  tape : B.tape = A.tape
  output : B.output = A.output
  size : A.heap.size ≤ B.heap.size
  block : ∀ k o, A.heap[k]? = some o → k ≠ S → ¬ E k o → B.heap[k]? = some o
/-- Nothing that holds cells has turned but the blocks of K, the box S, rows of decisions and values. -/
structure Rl (K : Nat → Prop) (N S : Nat) (A B : World) : Prop where
  os : B.os = A.os
  tape : B.tape = A.tape
  output : B.output = A.output
  size : A.heap.size ≤ B.heap.size
  block : ∀ k o, A.heap[k]? = some o → o.isCells = true → ¬ K k → k ≠ S → ¬ isOwn N k o → B.heap[k]? = some o
section
variable {K : Nat → Prop} {E E' : Nat → Obj → Prop} {N S : Nat} {A B C : World}
theorem lt_heap {w : World} {k : Nat} {o : Obj} (h : w.heap[k]? = some o) : k < w.heap.size := (Array.getElem?_eq_some_iff.1 h).1
theorem Ms.refl (E : Nat → Obj → Prop) (S : Nat) (A : World) : Ms E S A A := ⟨rfl, rfl, rfl, Nat.le_refl _, fun _ _ h _ _ => h⟩
theorem Ms.trans (h : Ms E S A B) (k : Ms E S B C) : Ms E S A C :=
  ⟨k.os.trans h.os, k.tape.trans h.tape, k.output.trans h.output, Nat.le_trans h.size k.size, fun i o hi h1 h2 => k.block i o (h.block i o hi h1 h2) h1 h2⟩
theorem Ms.mono (h : Ms E S A B) (hE : ∀ k o, E k o → E' k o) : Ms E' S A B := ⟨h.os, h.tape, h.output, h.size, fun k o hk h1 h2 => h.block k o hk h1 fun e => h2 (hE k o e)⟩
theorem Ms.own (h : Ms (isDec N) S A B) : Ms (isOwn N) S A B := h.mono fun _ _ h => .inl h
theorem ms_below (h : Below A.heap.size A B) : Ms E S A B := ⟨h.os, h.tape, h.output, h.size, fun k _ hk _ _ => (h.block k (lt_heap hk)).trans hk⟩
theorem Ms.setS (h : Ms E S A B) (o : Nat) (u : Value) : Ms E S A (B.setCell ⟨S, o, none⟩ u) :=
  ⟨h.os, h.tape, h.output, by simpa [World.setCell] using h.size, fun k x hk h1 h2 => (Below.heap_setCell B ⟨S, o, none⟩ u k h1).trans (h.block k x hk h1 h2)⟩
/-- A block of E's alone turns. -/
theorem ms_one {g : Nat} {ob : Obj} (hg : A.heap[g]? = some ob) (hd : E g ob) (h1 : B.os = A.os) (h2 : B.tape = A.tape) (h3 : B.output = A.output) (h4 : A.heap.size ≤ B.heap.size) (h5 : ∀ k, k < A.heap.size → k ≠ g → B.heap[k]? = A.heap[k]?) : Ms E S A B :=
  ⟨h1, h2, h3, h4, fun k x hk _ hx => by
    have hne : k ≠ g := fun e => by
      subst e
      rw [hg] at hk
      cases hk
      exact hx hd
    exact (h5 k (lt_heap hk) hne).trans hk⟩
theorem ms_setG {g : Nat} {ob : Obj} (hg : A.heap[g]? = some ob) (hd : E g ob) (o : Nat) (u : Value) : Ms E S A (A.setCell ⟨g, o, none⟩ u) :=
  ms_one hg hd rfl rfl rfl (by simp [World.setCell]) fun k _ hne => Below.heap_setCell A ⟨g, o, none⟩ u k hne
theorem Ms.grown {R : Option Nat} (h : Ms E S A B) (hg : B.grownBy C R) (hR : ∀ g, R = some g → ∃ ob, B.heap[g]? = some ob ∧ E g ob) : Ms E S A C :=
  ⟨hg.os.trans h.os, hg.tape.trans h.tape, hg.output.trans h.output, Nat.le_trans h.size hg.size, fun k x hk h1 h2 => by
    have h3 := h.block k x hk h1 h2
    refine (hg.block k (lt_heap h3) fun e => ?_).trans h3
    obtain ⟨ob, h4, h5⟩ := hR k e.symm
    rw [h3] at h4
    cases h4
    exact h2 h5⟩
theorem Ms.below (h : Ms E S A B) (hb : Below B.heap.size B C) : Ms E S A C := h.trans (ms_below hb)
theorem Rl.refl (K : Nat → Prop) (N S : Nat) (A : World) : Rl K N S A A := ⟨rfl, rfl, rfl, Nat.le_refl _, fun _ _ h _ _ _ _ => h⟩
theorem Rl.trans (h : Rl K N S A B) (k : Rl K N S B C) : Rl K N S A C :=
  ⟨k.os.trans h.os, k.tape.trans h.tape, k.output.trans h.output, Nat.le_trans h.size k.size, fun i o hi h0 h1 h2 h3 => k.block i o (h.block i o hi h0 h1 h2 h3) h0 h1 h2 h3⟩
theorem Ms.rl (h : Ms (isOwn N) S A B) : Rl K N S A B := ⟨h.os, h.tape, h.output, h.size, fun k o hk _ _ h2 h3 => h.block k o hk h2 h3⟩
end
/-- Nothing that holds cells has turned but the blocks of K. -/
structure Kx (K : Nat → Prop) (A B : World) : Prop where
  os : B.os = A.os
  tape : B.tape = A.tape
  output : B.output = A.output
  size : A.heap.size ≤ B.heap.size
  block : ∀ k o, A.heap[k]? = some o → o.isCells = true → ¬ K k → B.heap[k]? = some o
section
variable {K : Nat → Prop} {S B N : Nat} {w w' : World} {dv : Value} {D : List Int}
theorem Kx.rl (h : Kx K w w') : Rl K N S w w' := ⟨h.os, h.tape, h.output, h.size, fun k o hk hc hn _ _ => h.block k o hk hc hn⟩
theorem BoxS.kx {S : Nat} (h : BoxS w S B dv) (hk : Kx K w w') (hS : ¬ K S) : BoxS w' S B dv := hk.block S _ h rfl hS
theorem DecR.kx (h : DecR w N dv D) (hk : Kx K w w') (hN : ∀ k, K k → k < N) : DecR w' N dv D := by
  rcases h.cases_ with ⟨e, e2⟩ | ⟨g, cap, cur, e, h1, h2, h3, h4, h5, h6⟩
  · rw [e, e2]; exact DecR.nil _ _
  · rw [e]
    exact DecR.mk_ h1 (hk.block g _ h2 rfl fun hh => by have := hN g hh; omega) h3 h4 h5 h6
theorem DecR.blk (h : DecR w N dv D) (hb : Below w.heap.size w w') : ∀ g, dv.ownBlock = some g → ∃ ob, w'.heap[g]? = some ob ∧ isDec N g ob := fun g eg => by
  rcases h.cases_ with ⟨e, _⟩ | ⟨g', cap, cur, e, h1, h2, _⟩
  · rw [e] at eg; cases eg
  · rw [e] at eg
    cases eg
    exact ⟨_, (hb.block _ (lt_heap h2)).trans h2, h1, _, _, rfl⟩
theorem BoxS.grown {S : Nat} {u0 : Value} (hS : BoxS w S B u0) (h : DecR w N dv D) (hg : w.grownBy w' dv.ownBlock) : BoxS w' S B u0 := by
  refine hS.at_ (hg.block S hS.lt ?_)
  rcases h.cases_ with ⟨e, _⟩ | ⟨g', cap, cur, e, h1, h2, _⟩
  · rw [e]; intro h; cases h
  · rw [e]
    intro h
    have h3 : w.heap[S]? = _ := hS
    cases h
    rw [h2] at h3
    injection h3 with h3
    injection h3 with _ h4 _
    exact absurd h4 (by decide)
theorem DecR.setS {S : Nat} (h : DecR w N dv D) {u0 : Value} (hS : BoxS w S B u0) (o : Nat) (u : Value) : DecR (w.setCell ⟨S, o, none⟩ u) N dv D := by
  rcases h.cases_ with ⟨e, e2⟩ | ⟨g, cap, cur, e, h1, h2, h3, h4, h5, h6⟩
  · rw [e, e2]; exact DecR.nil _ _
  · rw [e]
    refine DecR.mk_ h1 ((Below.heap_setCell w ⟨S, o, none⟩ u g fun eg => ?_).trans h2) h3 h4 h5 h6
    have h7 : w.heap[S]? = _ := hS
    have eg' : g = S := eg
    rw [← eg', h2] at h7
    injection h7 with h7
    injection h7 with _ h8 _
    exact absurd h8 (by decide)
theorem DecR.at_ {S g k cap : Nat} (h : DecR w N (.slice (some ⟨g, 0, none⟩) k cap) D) {u0 : Value} (hS : BoxS w S B u0) : S ≠ g ∧ ∃ ob, w.heap[g]? = some ob ∧ isDec N g ob := by
  rcases h.cases_ with ⟨e, _⟩ | ⟨g', cap', cur, e, h1, h2, _⟩
  · cases e
  · injection e with e1 _ _
    injection e1 with e4
    injection e4 with e5
    subst e5
    refine ⟨fun e => ?_, _, h2, h1, _, _, rfl⟩
    have h3 : w.heap[S]? = _ := hS
    rw [e, h2] at h3
    injection h3 with h3
    injection h3 with _ h4 _
    exact absurd h4 (by decide)
theorem Kx.cell (h : Kx K w w') {b o : Nat} {v : Value} (hK : ¬ K b) (hc : w.cell? ⟨b, o, none⟩ = some v) : w'.cell? ⟨b, o, none⟩ = some v := by
  have hlt := World.block_lt_of_cell? w ⟨b, o, none⟩ hc
  have he : w.heap[b]? = some w.heap[b] := Array.getElem?_eq_getElem hlt
  refine (World.cell?_of_block (w := w) ((h.block b _ he ?_ hK).trans he.symm)).trans hc
  unfold World.cell? at hc
  simp only [he] at hc
  cases hb : w.heap[b] with
  | cells cs t fr => rfl
  | _ => simp [hb] at hc
end

set_option maxRecDepth 100000 in
set_option maxHeartbeats 1600000 in
/-- The decision that a variable is false. -/
theorem decide_any (S B N : Nat) (dv : Value) (D : List Int) (z : Int) (w : World) (hz0 : 1 ≤ z) (hz1 : z ≤ 12) (hD : D.length ≤ 1000) (hN : N ≤ w.heap.size) (hS : BoxS w S B dv) (hR : DecR w N dv D) :
    Calls Try.prog 53 #[.pointer (some ⟨S, 0, none⟩), .int .i64 z] w fun e w' => e = .returned (.tuple #[]) ∧ ∃ dv', BoxS w' S B dv' ∧ DecR w' N dv' (D ++ [-z]) ∧ Ms (isDec N) S w w' := by
  have hSl := hS.lt
  have HS := Lib.hid hS
  have HR := Lib.hid hR
  have c1 := hS.c1
  have c2 := hS.c2
  have f1 := hS.fr 1
  have HAl := Lib.hid (bl_alloc (Below.refl w.heap.size w) (.cells #[.int .i64 (-z)] 58))
  clear hS hR
  go_enter Try.func53, Try.ntmps53
  go_wp2_with (at_builtin; refine wpList_plain (by rfl) fun K' hK' => ?_; refine wp_dec1 _ _ (by rfl) (HR.out.below HAl.out) (by simp; omega) (by rfl) (by rfl) (heap_alloc_new _ _) hD ?_; intro g2 cap2 w2 hd2 hg2; have HD2 := Lib.hid hd2; have HM2 := Lib.hid (Ms.grown (E := isDec N) (S := S) ((Ms.refl _ S w).below HAl.out) hg2 (HR.out.blk HAl.out)); have HB2 := Lib.hid ((HS.out.below HAl.out).grown (HR.out.below HAl.out) hg2); clear hd2 hg2; have d1 := HB2.out.c1; have g1 := HB2.out.fr 1; refine hK' _ _ ?_; clear hK' K' c1 f1 c2)
  exact ⟨rfl, .tuple #[], by simp [results, Try.results53], rfl, _, HB2.out.set1, HD2.out.setS HB2.out _ _, HM2.out.setS _ _⟩

/-- Where a search stands: its box, its decisions, its values' box X; what it has given is pre. -/
structure ItS (K : Nat → Prop) (S B N Bx : Nat) (W0 : World) (J : List Nat → World → Prop) (W : World) (X : Nat) (D : List Int) (pre : List Nat) (dv : Value) : Prop where
  bx : W.heap[Bx]? = some (.cells #[.pointer (some ⟨S, 0, none⟩)] 75 (0, 0))
  box : BoxS W S B dv
  row : DecR W N dv D
  rl : Rl K N S W0 W
  okd : okDV D
  j : J pre W
  hX : N ≤ X
  vb : ∃ cs, W.heap[X]? = some (.cells cs 94 (0, 0)) ∧ 12 ≤ cs.size
  hN : N ≤ W.heap.size
section
variable {K : Nat → Prop} {S B N Bx X : Nat} {W0 W W' : World} {J : List Nat → World → Prop} {D D' : List Int} {pre : List Nat} {dv dv' : Value}
theorem ItS.xb (h : ItS K S B N Bx W0 J W X D pre dv) : W.cell? ⟨Bx, 0, none⟩ = some (.pointer (some ⟨S, 0, none⟩)) := (cell_of_row W Bx _ _ _ _ h.bx).trans rfl
theorem ItS.move (h : ItS K S B N Bx W0 J W X D pre dv) (hJ : ∀ pre A B, J pre A → Ms (isOwn N) S A B → J pre B) (hm : Ms (isDec N) S W W') (hb : BoxS W' S B dv') (hr : DecR W' N dv' D') (hd : okDV D') : ItS K S B N Bx W0 J W' X D' pre dv' := by
  have hne : Bx ≠ S := fun e => by
    have h1 := h.bx
    have h2 : W.heap[S]? = _ := h.box
    rw [e, h2] at h1
    injection h1 with h1
    injection h1 with _ h3 _
    exact absurd h3 (by decide)
  obtain ⟨cs, c1, c2⟩ := h.vb
  have hne2 : X ≠ S := fun e => by
    have h2 : W.heap[S]? = _ := h.box
    rw [e, h2] at c1
    injection c1 with h1
    injection h1 with _ h3 _
    exact absurd h3 (by decide)
  refine ⟨hm.block Bx _ h.bx hne ?_, hb, hr, h.rl.trans hm.own.rl, hd, hJ _ _ _ h.j hm.own, h.hX, ⟨cs, hm.block X _ c1 hne2 ?_, c2⟩, Nat.le_trans h.hN hm.size⟩
  · rintro ⟨_, c, f, e⟩
    injection e with _ e _
    exact absurd e (by decide)
  · rintro ⟨_, c, f, e⟩
    injection e with _ e _
    exact absurd e (by decide)
theorem ItS.below (h : ItS K S B N Bx W0 J W X D pre dv) (hJ : ∀ pre A B, J pre A → Ms (isOwn N) S A B → J pre B) (hb : Below W.heap.size W W') : ItS K S B N Bx W0 J W' X D pre dv :=
  h.move hJ (ms_below hb) (h.box.below hb) (h.row.below hb) h.okd
/-- The values are laid anew. -/
theorem other_cells {b : Nat} : ∀ (vs : List Value) (o : Nat) (w : World) (k : Nat), k ≠ b → (w.setCells b o vs).heap[k]? = w.heap[k]? := by
  intro vs
  induction vs with
  | nil => intro o w k _; rfl
  | cons v vs ih => intro o w k hk; exact (ih (o + 1) _ k hk).trans (Below.heap_setCell w ⟨b, o, none⟩ v k hk)
theorem same_cells {b : Nat} {T : TypeId} {fr : Nat × Nat} : ∀ (vs : List Value) (o : Nat) (w : World) (cs : Array Value), w.heap[b]? = some (.cells cs T fr) → ∃ cs', (w.setCells b o vs).heap[b]? = some (.cells cs' T fr) ∧ cs'.size = cs.size := by
  intro vs
  induction vs with
  | nil => intro o w cs h; exact ⟨cs, h, rfl⟩
  | cons v vs ih =>
    intro o w cs h
    obtain ⟨cs', h1, h2⟩ := ih (o + 1) (w.setCell ⟨b, o, none⟩ v) (cs.setIfInBounds o v) (by simp [World.setCell, Array.getElem?_modify, h])
    exact ⟨cs', h1, by simpa using h2⟩
theorem ItS.vals (h : ItS K S B N Bx W0 J W X D pre dv) (hJ : ∀ pre A B, J pre A → Ms (isOwn N) S A B → J pre B) (vs : List Value) : ItS K S B N Bx W0 J (W.setCells X 0 vs) X D pre dv := by
  obtain ⟨cs, c1, c2⟩ := h.vb
  obtain ⟨cs', d1, d2⟩ := same_cells vs 0 W cs c1
  have hb := below_cells (n := 0) (Nat.zero_le X) vs 0 W (Below.refl 0 W)
  have hm : Ms (isOwn N) S W (W.setCells X 0 vs) := ms_one c1 (.inr ⟨h.hX, _, _, rfl⟩) hb.os hb.tape hb.output hb.size fun k _ hk => other_cells vs 0 W k hk
  have hty : ∀ {k : Nat} {cs : Array Value} {T : TypeId} {fr : Nat × Nat}, W.heap[k]? = some (.cells cs T fr) → T ≠ 94 → (W.setCells X 0 vs).heap[k]? = some (.cells cs T fr) := fun {k cs T fr} hk hT => by
    refine (other_cells vs 0 W k fun e => ?_).trans hk
    rw [e, c1] at hk
    injection hk with hk
    injection hk with _ h3 _
    exact hT h3.symm
  refine ⟨hty h.bx (by decide), hty h.box (by decide), ?_, h.rl.trans hm.rl, h.okd, hJ _ _ _ h.j hm, h.hX, ⟨cs', d1, by omega⟩, Nat.le_trans h.hN hb.size⟩
  rcases h.row.cases_ with ⟨e, e2⟩ | ⟨g, cap, cur, e, h1, h2, h3, h4, h5, h6⟩
  · rw [e, e2]; exact DecR.nil _ _
  · rw [e]
    exact DecR.mk_ h1 (hty h2 (by decide)) h3 h4 h5 h6
/-- A round of the caller's. -/
theorem ItS.body (h : ItS K S B N Bx W0 J W X D pre dv) (hk : Kx K W W') (hK : ∀ k, K k → k < N) (hS : N ≤ S) (hBx : N ≤ Bx) {pre' : List Nat} (hj : J pre' W') : ItS K S B N Bx W0 J W' X D pre' dv := by
  obtain ⟨cs, c1, c2⟩ := h.vb
  exact ⟨hk.block Bx _ h.bx rfl fun e => (by have := hK _ e; omega), h.box.kx hk fun e => (by have := hK _ e; omega), h.row.kx hk hK, h.rl.trans hk.rl, h.okd, hj, h.hX, ⟨cs, hk.block X _ c1 rfl fun e => (by have := hK _ e; have := h.hX; omega), c2⟩, Nat.le_trans h.hN hk.size⟩
end
end Go.Proofs.Ytckaeaclclhapaa

namespace Go.Proofs.Ytckaeaclclhapaa
open Go.ChangeShapes Go.WideShapes Go.ChangeAt Go.RowKit Go.Shelf

theorem list_unroll (L : List Value) : L = (List.range L.length).map (fun i => L.getD i undef) := by
  refine List.ext_getElem (by simp) fun i h1 h2 => ?_
  simp [List.getD, List.getElem?_eq_getElem h1]
/-- The frame of the iterator: its yield, its search, its values' box. -/
def FrS (a : Act) (Y P1 P3 : Value) : Prop := a.tmps.size = 93 ∧ a.defers = [] ∧ a.tmps[0]? = some Y ∧ a.tmps[1]? = some P1 ∧ a.tmps[3]? = some P3
theorem FrS.open {a : Act} {Y P1 P3 : Value} (h : FrS a Y P1 P3) : ∃ f : Nat → Value, a = { tmps := #[Y, P1, f 2, P3, f 4, f 5, f 6, f 7, f 8, f 9, f 10, f 11, f 12, f 13, f 14, f 15, f 16, f 17, f 18, f 19, f 20, f 21, f 22, f 23, f 24, f 25, f 26, f 27, f 28, f 29, f 30, f 31, f 32, f 33, f 34, f 35, f 36, f 37, f 38, f 39, f 40, f 41, f 42, f 43, f 44, f 45, f 46, f 47, f 48, f 49, f 50, f 51, f 52, f 53, f 54, f 55, f 56, f 57, f 58, f 59, f 60, f 61, f 62, f 63, f 64, f 65, f 66, f 67, f 68, f 69, f 70, f 71, f 72, f 73, f 74, f 75, f 76, f 77, f 78, f 79, f 80, f 81, f 82, f 83, f 84, f 85, f 86, f 87, f 88, f 89, f 90, f 91, f 92], defers := [] } := by
  obtain ⟨⟨L⟩, d⟩ := a
  obtain ⟨h1, h2, h3, h4, h5⟩ := h
  simp only at h1 h2 h3 h4 h5
  subst h2
  have hl : L.length = 93 := h1
  have h6 := list_unroll L
  rw [hl] at h6
  have e0 : L.getD 0 undef = Y := by have h7 : L[0]? = some Y := (by simpa using h3); simp [List.getD, h7]
  have e1 : L.getD 1 undef = P1 := by have h7 : L[1]? = some P1 := (by simpa using h4); simp [List.getD, h7]
  have e3 : L.getD 3 undef = P3 := by have h7 : L[3]? = some P3 := (by simpa using h5); simp [List.getD, h7]
  refine ⟨fun i => L.getD i undef, ?_⟩
  have h8 : L = [L.getD 0 undef, L.getD 1 undef, L.getD 2 undef, L.getD 3 undef, L.getD 4 undef, L.getD 5 undef, L.getD 6 undef, L.getD 7 undef, L.getD 8 undef, L.getD 9 undef, L.getD 10 undef, L.getD 11 undef, L.getD 12 undef, L.getD 13 undef, L.getD 14 undef, L.getD 15 undef, L.getD 16 undef, L.getD 17 undef, L.getD 18 undef, L.getD 19 undef, L.getD 20 undef, L.getD 21 undef, L.getD 22 undef, L.getD 23 undef, L.getD 24 undef, L.getD 25 undef, L.getD 26 undef, L.getD 27 undef, L.getD 28 undef, L.getD 29 undef, L.getD 30 undef, L.getD 31 undef, L.getD 32 undef, L.getD 33 undef, L.getD 34 undef, L.getD 35 undef, L.getD 36 undef, L.getD 37 undef, L.getD 38 undef, L.getD 39 undef, L.getD 40 undef, L.getD 41 undef, L.getD 42 undef, L.getD 43 undef, L.getD 44 undef, L.getD 45 undef, L.getD 46 undef, L.getD 47 undef, L.getD 48 undef, L.getD 49 undef, L.getD 50 undef, L.getD 51 undef, L.getD 52 undef, L.getD 53 undef, L.getD 54 undef, L.getD 55 undef, L.getD 56 undef, L.getD 57 undef, L.getD 58 undef, L.getD 59 undef, L.getD 60 undef, L.getD 61 undef, L.getD 62 undef, L.getD 63 undef, L.getD 64 undef, L.getD 65 undef, L.getD 66 undef, L.getD 67 undef, L.getD 68 undef, L.getD 69 undef, L.getD 70 undef, L.getD 71 undef, L.getD 72 undef, L.getD 73 undef, L.getD 74 undef, L.getD 75 undef, L.getD 76 undef, L.getD 77 undef, L.getD 78 undef, L.getD 79 undef, L.getD 80 undef, L.getD 81 undef, L.getD 82 undef, L.getD 83 undef, L.getD 84 undef, L.getD 85 undef, L.getD 86 undef, L.getD 87 undef, L.getD 88 undef, L.getD 89 undef, L.getD 90 undef, L.getD 91 undef, L.getD 92 undef] := h6.trans rfl
  rw [e0, e1, e3] at h8
  rw [← h8]
theorem OwnB.to {w : World} {G n : Nat} {v v' : Nat → Bool} (h : OwnB w G n n v) (he : ∀ i, i < n → v i = v' i) : OwnB w G n n v' := by
  obtain ⟨cs, h1, h2, h3⟩ := h
  exact ⟨cs, h1, h2, fun i hi => by rw [← he i hi]; exact h3 i hi⟩

set_option linter.unusedVariables false in
set_option maxRecDepth 100000 in
set_option maxHeartbeats 400000 in
theorem solutions_any (n l Bx S B N m : Nat) (lo : Nat → Prop) (lv : Value) (p : Nat → Con) (uv : Nat → Value) (K : Nat → Prop) (W0 : World) (J Jx : List Nat → World → Prop) (D0 : List Int) (dv0 : Value) (L : List Nat) (W : World)
    (hn : 1 ≤ n) (hm : m ≤ 1400) (hok : ∀ i, i < m → okC (p i) ∧ (p i).n ≤ 1048576) (hK : ∀ k, K k → k < N) (hSN : N ≤ S) (hBN : N ≤ Bx)
    (hPg : ∀ W', Rl K N S W0 W' → Pg W' lo B lv m m p (fun i => slkC (p i) z0) (usP p m) uv)
    (hJ : ∀ pre A B, J pre A → Ms (isOwn N) S A B → J pre B)
    (hY : ∀ pre k G W1, J pre W1 → pre ++ [k] <+: L → N ≤ G → OwnB W1 G 12 12 (valN k) → YieldAt Fence.wide (n - 1) Try.prog l #[.slice (some ⟨G, 0, none⟩) 12 12] W1 fun e W' => (e = .returned (.bool true) ∧ J (pre ++ [k]) W' ∧ Kx K W1 W') ∨ (e = .returned (.bool false) ∧ Jx (pre ++ [k]) W'))
    (hbx : W.heap[Bx]? = some (.cells #[.pointer (some ⟨S, 0, none⟩)] 75 (0, 0))) (hS : BoxS W S B dv0) (hR : DecR W N dv0 D0) (hrl : Rl K N S W0 W) (hD : okDV D0) (hj : J [] W) (hN : N ≤ W.heap.size)
    (hL : solL (qS p m) D0 ++ remR (qS p m) D0.reverse = L) :
    Calls Try.prog 49 #[.func (.yield l) #[] #[], .pointer (some ⟨Bx, 0, none⟩)] W fun e W' => (∃ v, e = .returned v) ∧ (J L W' ∨ ∃ pre, Jx pre W') := by
  have HOk := Lib.hid hok
  have HPg := Lib.hid hPg
  have HJ := Lib.hid hJ
  have HY := Lib.hid hY
  have HK := Lib.hid hK
  have HL := Lib.hid hL
  have HI0 := Lib.hid (show ∀ W', Below W.heap.size W W' → (∃ cs, W'.heap[W.heap.size]? = some (.cells cs 94 (0, 0)) ∧ 12 ≤ cs.size) → ItS K S B N Bx W0 J W' W.heap.size D0 [] dv0 from fun W' hb hv =>
    ⟨(hb.block Bx (lt_heap hbx)).trans hbx, hS.below hb, hR.below hb, hrl.trans (Ms.rl (ms_below hb)), hD, hJ _ _ _ hj (ms_below hb), hN, hv, Nat.le_trans hN hb.size⟩)
  clear hok hPg hJ hY hK hL hbx hS hR hrl hD hj
  go_enter Try.func49, Try.ntmps49
  go_wp2
  refine wp_scope_two (fun l' n' a' w' => ∃ (X : Nat) (D : List Int) (pre : List Nat) (dv : Value), FrS a' (.func (.yield l) #[] #[]) (.pointer (some ⟨Bx, 0, none⟩)) (.pointer (some ⟨X, 0, none⟩)) ∧ ItS K S B N Bx W0 J w' X D pre dv ∧ ((l' = 0 ∧ pre ++ (solL (qS p m) D ++ remR (qS p m) D.reverse) = L ∧ n' = aV D.length + muR D.reverse) ∨ (l' = 1 ∧ pre ++ remR (qS p m) D.reverse = L ∧ n' = muR D.reverse))) (by rfl) (by rfl) (by rfl) (by rfl) (by rfl) ?first ?conf ?visit
  case first =>
    go_wp2
    refine ⟨_, W.heap.size, D0, [], dv0, ⟨rfl, rfl, rfl, rfl, rfl⟩, HI0.out _ (bl_alloc (Below.refl _ _) _) ⟨_, heap_alloc_new _ _, by decide⟩, .inl ⟨(by first | rfl | trivial), ?_, (by first | rfl | trivial)⟩⟩
    exact HL.out
  case conf =>
    rintro n1 a1 w1 ⟨X, D, pre, dv, hfr, hi, hh⟩
    obtain ⟨f, rfl⟩ := hfr.open
    clear hfr
    obtain ⟨heq, hn1⟩ : pre ++ remR (qS p m) D.reverse = L ∧ n1 = muR D.reverse := by
      rcases hh with ⟨h, _⟩ | ⟨_, h1, h2⟩
      · cases h
      · exact ⟨h1, h2⟩
    have HE := Lib.hid heq
    have HN1 := Lib.hid hn1
    have HI := Lib.hid hi
    have x0 := hi.xb
    have s0 := hi.box.c0
    have s1 := hi.box.c1
    have s2 := hi.box.c2
    have s3 := hi.box.c3
    have sf := hi.box.fr 1
    clear hh heq hn1 hi
    obtain rfl | ⟨D', z, rfl⟩ : D = [] ∨ ∃ D' z, D = D' ++ [z] := (by
      rcases List.eq_nil_or_concat D with h | ⟨D', z, h⟩
      · exact .inl h
      · exact .inr ⟨D', z, by rw [h, List.concat_eq_append]⟩)
    · obtain ⟨A, cap, hdv, -⟩ := HI.out.row.rd
      subst hdv
      simp only [List.length_nil] at s1 HI ⊢
      go_wp2_with fail
      go_quiet ((go_at_call 55; exact Calls.quiet_of_same (fail_nil _ _)))
      go_wp2
      simp only [Exit.jumps2]
      refine bodyPost_ret (results_none rfl _ _ _) rfl ?_
      exact ⟨⟨_, rfl⟩, .inl (by have h := HE.out; rw [List.reverse_nil] at h; have e : pre = L := (by simpa [remR] using h); rw [← e]; exact HJ.out _ _ _ HI.out.j (ms_below (bl_drewN (Below.refl _ _) _)))⟩
    · have hlen : (D' ++ [z]).length = D'.length + 1 := by simp
      have hz : litB z = true := HI.out.okd.1 z (by simp)
      obtain ⟨hz0, hz1, hz2⟩ := litB_iff.1 hz
      have hle := okD_len HI.out.okd
      rw [hlen] at hle
      obtain ⟨g, cap, hdv, hcl, hfz, hcap, hcm⟩ := HI.out.row.cell (i := D'.length) (by rw [hlen]; omega)
      rw [hlen] at hdv hcap
      have hgd : (D' ++ [z]).getD D'.length 0 = z := by simp [List.getD]
      rw [hgd] at hcl
      subst hdv
      have HRow := Lib.hid HI.out.row
      have HBox := Lib.hid HI.out.box
      have HOd := Lib.hid HI.out.okd
      have hk0 : (0 : Int) ≤ (D'.length : Int) := by omega
      have hk1 : (D'.length : Int) < (D'.length : Int) + 1 := by omega
      have hk2 : (D'.length : Int) < ((D'.length + 1 : Nat) : Int) := by omega
      have hk3 : D'.length < D'.length + 1 := by omega
      have hk4 : ¬ (D'.length : Int) < 0 := by omega
      have hw1 : IntKind.i64.wrap ((D'.length : Int) + 1 - 1) = (D'.length : Int) := by rw [IntWalk.i64_in _ (by omega)]; omega
      have hw2 : wrap64 ((D'.length : Int) + 1 - 1) = (D'.length : Int) := by rw [← IntWalk.i64_left]; exact hw1
      have hw0 : IntKind.i64.wrap (D'.length : Int) = (D'.length : Int) := IntWalk.i64_in _ (by omega)
      have hne : ((D'.length : Int) + 1 == 0) = false := by rw [beq_eq_false_iff_ne]; omega
      unfold maxLen at hcm
      clear hlen hgd hz
      go_wp2_with fail
      go_quiet ((go_at_call 55; exact Calls.quiet_of_same (fail_nil _ _)))
      go_wp2_with fail
      go_quiet ((go_at_call 43; exact (litNegated_any _ _).mono fun _ _ ⟨he, hw⟩ => ⟨he, _, hw⟩))
      by_cases hneg : z < 0
      · have hdz : decide (z < 0) = true := decide_eq_true hneg
        go_wp2_with fail
        generalize hwd : World.drewN (World.drewN w1 _) _ = wd
        have hbd : Below w1.heap.size w1 wd.drew := hwd ▸ (bl_drewN (bl_drewN (Below.refl _ _) _) _).drew
        have HI2 := Lib.hid (HI.out.below HJ.out hbd)
        have y0 : wd.cell? ⟨Bx, 0, none⟩ = some (.pointer (some ⟨S, 0, none⟩)) := hwd ▸ x0
        have y1 : wd.cell? ⟨S, 1, none⟩ = some (.slice (some ⟨g, 0, none⟩) (D'.length + 1) cap) := hwd ▸ s1
        have y2 : wd.cell? ⟨g, D'.length, none⟩ = some (.int .i64 z) := hwd ▸ hcl
        have y3 : wd.frozen? ⟨g, D'.length, none⟩ = false := hwd ▸ hfz
        clear hwd hbd x0 s1 hcl hfz s0 s2 s3 sf hdz
        have hwz : IntKind.i64.wrap (-z) = -z := IntWalk.i64_in _ (by omega)
        go_still_tail 14, (by kernel_rfl)
        change wpList _ _ _ _ _ wd.drew
        go_wp2
        go_step3
        obtain ⟨hSg, ob, hob, hod⟩ := HI2.out.row.at_ HI2.out.box
        have HI3 := Lib.hid (HI2.out.move HJ.out (ms_setG (E := isDec N) hob hod D'.length (.int .i64 (-z))) (HI2.out.box.far (p := ⟨g, D'.length, none⟩) hSg _) HI2.out.row.flip (okD_flip HI2.out.okd))
        exact ⟨.inl rfl, aV (D' ++ [-z]).length + muR (D' ++ [-z]).reverse, by rw [HN1.out]; exact mu_first hneg, X, D' ++ [-z], pre, _, ⟨rfl, rfl, rfl, rfl, rfl⟩, HI3.out, .inl ⟨rfl, by rw [← HE.out, rem_first hneg], rfl⟩⟩
      · have hdz : decide (z < 0) = false := decide_eq_false hneg
        go_wp2_with fail
        generalize hwd : World.drewN w1 _ = wd
        have hbd : Below w1.heap.size w1 wd.drew := hwd ▸ (bl_drewN (Below.refl _ _) _).drew
        have HI2 := Lib.hid (HI.out.below HJ.out hbd)
        have y0 : wd.cell? ⟨Bx, 0, none⟩ = some (.pointer (some ⟨S, 0, none⟩)) := hwd ▸ x0
        have y1 : wd.cell? ⟨S, 1, none⟩ = some (.slice (some ⟨g, 0, none⟩) (D'.length + 1) cap) := hwd ▸ s1
        have y3 : wd.frozen? ⟨S, 1, none⟩ = false := hwd ▸ sf
        have hc2 : (D'.length : Int) ≤ (cap : Int) := by omega
        clear hwd hbd x0 s1 hcl hfz s0 s2 s3 sf hdz
        go_still_tail 9, (by kernel_rfl)
        change wpList _ _ _ _ _ wd.drew
        go_wp2
        go_step3
        have HI3 := Lib.hid (HI2.out.move HJ.out ((Ms.refl (isDec N) S wd.drew).setS 1 (.slice (some ⟨g, 0, none⟩) D'.length cap)) HI2.out.box.set1 (HI2.out.row.cut.setS HI2.out.box 1 _) (okD_pre HI2.out.okd))
        exact ⟨.inr rfl, muR D'.reverse, by rw [HN1.out]; exact mu_second (by omega), X, D', pre, _, ⟨rfl, rfl, rfl, rfl, rfl⟩, HI3.out, .inr ⟨rfl, by rw [← HE.out, rem_second (by omega)], rfl⟩⟩
  case visit =>
    rintro hC n1 a1 w1 ⟨X, D, pre, dv, hfr, hi, hh⟩
    obtain ⟨f, rfl⟩ := hfr.open
    clear hfr
    obtain ⟨heq, hn1⟩ : pre ++ (solL (qS p m) D ++ remR (qS p m) D.reverse) = L ∧ n1 = aV D.length + muR D.reverse := by
      rcases hh with ⟨_, h1, h2⟩ | ⟨h, _⟩
      · exact ⟨h1, h2⟩
      · cases h
    have HE := Lib.hid heq
    have HN1 := Lib.hid hn1
    have HI := Lib.hid hi
    have HC := Lib.hid hC
    have x0 := hi.xb
    have s3 := hi.box.c3
    have hDl := okD_len hi.okd
    clear hh heq hn1 hi hC
    go_wp2_with fail
    refine (visit_nil _).mono ?_
    rintro e w2 ⟨rfl, hw⟩
    subst hw
    go_wp2_with fail
    refine (propDec_any S B N dv D lo m lv p uv _ hm HOk.out HI.out.okd HI.out.box HI.out.row (HPg.out _ HI.out.rl)).mono ?_
    rintro e w2 ⟨V, r, rfl, hruns, hrng, hb⟩
    have HI2 := Lib.hid (HI.out.below HJ.out hb)
    have HRuns := Lib.hid hruns
    have HRng := Lib.hid hrng
    obtain ⟨cs2, d1, d2⟩ := HI2.out.vb
    have hpx : ∀ i, i < 12 → w2.cell? ⟨X, i, none⟩ = some (cs2.getD i undef) := fun i hi => (cell_of_row w2 X _ _ _ _ d1).trans (by rw [Array.getElem?_eq_getElem (by omega)]; simp [Array.getD, show i < cs2.size by omega])
    have hfx : ∀ i, w2.frozen? ⟨X, i, none⟩ = false := fun i => by simp [World.frozen?, d1]
    obtain ⟨y0, p0⟩ : ∃ y, w2.cell? ⟨X, 0, none⟩ = some y := ⟨_, hpx 0 (by omega)⟩
    have g0 : w2.frozen? ⟨X, 0, none⟩ = false := hfx 0
    obtain ⟨y1, p1⟩ : ∃ y, w2.cell? ⟨X, 1, none⟩ = some y := ⟨_, hpx 1 (by omega)⟩
    have g1 : w2.frozen? ⟨X, 1, none⟩ = false := hfx 1
    obtain ⟨y2, p2⟩ : ∃ y, w2.cell? ⟨X, 2, none⟩ = some y := ⟨_, hpx 2 (by omega)⟩
    have g2 : w2.frozen? ⟨X, 2, none⟩ = false := hfx 2
    obtain ⟨y3, p3⟩ : ∃ y, w2.cell? ⟨X, 3, none⟩ = some y := ⟨_, hpx 3 (by omega)⟩
    have g3 : w2.frozen? ⟨X, 3, none⟩ = false := hfx 3
    obtain ⟨y4, p4⟩ : ∃ y, w2.cell? ⟨X, 4, none⟩ = some y := ⟨_, hpx 4 (by omega)⟩
    have g4 : w2.frozen? ⟨X, 4, none⟩ = false := hfx 4
    obtain ⟨y5, p5⟩ : ∃ y, w2.cell? ⟨X, 5, none⟩ = some y := ⟨_, hpx 5 (by omega)⟩
    have g5 : w2.frozen? ⟨X, 5, none⟩ = false := hfx 5
    obtain ⟨y6, p6⟩ : ∃ y, w2.cell? ⟨X, 6, none⟩ = some y := ⟨_, hpx 6 (by omega)⟩
    have g6 : w2.frozen? ⟨X, 6, none⟩ = false := hfx 6
    obtain ⟨y7, p7⟩ : ∃ y, w2.cell? ⟨X, 7, none⟩ = some y := ⟨_, hpx 7 (by omega)⟩
    have g7 : w2.frozen? ⟨X, 7, none⟩ = false := hfx 7
    obtain ⟨y8, p8⟩ : ∃ y, w2.cell? ⟨X, 8, none⟩ = some y := ⟨_, hpx 8 (by omega)⟩
    have g8 : w2.frozen? ⟨X, 8, none⟩ = false := hfx 8
    obtain ⟨y9, p9⟩ : ∃ y, w2.cell? ⟨X, 9, none⟩ = some y := ⟨_, hpx 9 (by omega)⟩
    have g9 : w2.frozen? ⟨X, 9, none⟩ = false := hfx 9
    obtain ⟨y10, p10⟩ : ∃ y, w2.cell? ⟨X, 10, none⟩ = some y := ⟨_, hpx 10 (by omega)⟩
    have g10 : w2.frozen? ⟨X, 10, none⟩ = false := hfx 10
    obtain ⟨y11, p11⟩ : ∃ y, w2.cell? ⟨X, 11, none⟩ = some y := ⟨_, hpx 11 (by omega)⟩
    have g11 : w2.frozen? ⟨X, 11, none⟩ = false := hfx 11
    have hXl : X < w2.heap.size := lt_heap d1
    have hth : w2.there X 0 ([.int .i64 (V 0), .int .i64 (V 1), .int .i64 (V 2), .int .i64 (V 3), .int .i64 (V 4), .int .i64 (V 5), .int .i64 (V 6), .int .i64 (V 7), .int .i64 (V 8), .int .i64 (V 9), .int .i64 (V 10), .int .i64 (V 11)] : List Value).length := fun j hj => by
      rw [Nat.zero_add]
      exact ⟨by rw [hpx j hj]; rfl, hfx j⟩
    have HTh := Lib.hid hth
    clear hb hruns hrng d1 d2 hpx hfx hth x0 s3 HI
    unfold arrV cells12
    by_cases hr : 0 ≤ r
    · go_wp2_with fail
      go_step3
      have HI3 := Lib.hid (HI2.out.vals HJ.out [.int .i64 (V 0), .int .i64 (V 1), .int .i64 (V 2), .int .i64 (V 3), .int .i64 (V 4), .int .i64 (V 5), .int .i64 (V 6), .int .i64 (V 7), .int .i64 (V 8), .int .i64 (V 9), .int .i64 (V 10), .int .i64 (V 11)])
      exact ⟨.inr rfl, muR D.reverse, by rw [HN1.out]; have := aV_pos hDl; omega, X, D, pre, dv, ⟨rfl, rfl, rfl, rfl, rfl⟩, HI3.out, .inr ⟨rfl, by rw [← HE.out, sol_none HOk.out HI2.out.okd HRuns.out hr, List.nil_append], rfl⟩⟩
    · go_wp2_with fail
      have HI3' := Lib.hid (HI2.out.vals HJ.out [.int .i64 (V 0), .int .i64 (V 1), .int .i64 (V 2), .int .i64 (V 3), .int .i64 (V 4), .int .i64 (V 5), .int .i64 (V 6), .int .i64 (V 7), .int .i64 (V 8), .int .i64 (V 9), .int .i64 (V 10), .int .i64 (V 11)])
      have hrg := World.rangeAt_setCells_same w2 X 0 [.int .i64 (V 0), .int .i64 (V 1), .int .i64 (V 2), .int .i64 (V 3), .int .i64 (V 4), .int .i64 (V 5), .int .i64 (V 6), .int .i64 (V 7), .int .i64 (V 8), .int .i64 (V 9), .int .i64 (V 10), .int .i64 (V 11)] HTh.out
      have hlt3 : X < (w2.setCells X 0 [.int .i64 (V 0), .int .i64 (V 1), .int .i64 (V 2), .int .i64 (V 3), .int .i64 (V 4), .int .i64 (V 5), .int .i64 (V 6), .int .i64 (V 7), .int .i64 (V 8), .int .i64 (V 9), .int .i64 (V 10), .int .i64 (V 11)]).heap.size := Nat.lt_of_lt_of_le hXl (below_cells (n := 0) (Nat.zero_le X) [.int .i64 (V 0), .int .i64 (V 1), .int .i64 (V 2), .int .i64 (V 3), .int .i64 (V 4), .int .i64 (V 5), .int .i64 (V 6), .int .i64 (V 7), .int .i64 (V 8), .int .i64 (V 9), .int .i64 (V 10), .int .i64 (V 11)] 0 w2 (Below.refl 0 w2)).size
      have hv3 : ∀ i, i < 12 → (w2.setCells X 0 [.int .i64 (V 0), .int .i64 (V 1), .int .i64 (V 2), .int .i64 (V 3), .int .i64 (V 4), .int .i64 (V 5), .int .i64 (V 6), .int .i64 (V 7), .int .i64 (V 8), .int .i64 (V 9), .int .i64 (V 10), .int .i64 (V 11)]).cell? ⟨X, 0 + i, none⟩ = some (.int .i64 (V i)) := fun i hi => hrg i _ (by match i, hi with | 0, _ => rfl | 1, _ => rfl | 2, _ => rfl | 3, _ => rfl | 4, _ => rfl | 5, _ => rfl | 6, _ => rfl | 7, _ => rfl | 8, _ => rfl | 9, _ => rfl | 10, _ => rfl | 11, _ => rfl)
      have hW3 : ((((((((((((w2.setCell ⟨X, 0, none⟩ (.int .i64 (V 0))).setCell ⟨X, 1, none⟩ (.int .i64 (V 1))).setCell ⟨X, 2, none⟩ (.int .i64 (V 2))).setCell ⟨X, 3, none⟩ (.int .i64 (V 3))).setCell ⟨X, 4, none⟩ (.int .i64 (V 4))).setCell ⟨X, 5, none⟩ (.int .i64 (V 5))).setCell ⟨X, 6, none⟩ (.int .i64 (V 6))).setCell ⟨X, 7, none⟩ (.int .i64 (V 7))).setCell ⟨X, 8, none⟩ (.int .i64 (V 8))).setCell ⟨X, 9, none⟩ (.int .i64 (V 9))).setCell ⟨X, 10, none⟩ (.int .i64 (V 10))).setCell ⟨X, 11, none⟩ (.int .i64 (V 11))) = w2.setCells X 0 [.int .i64 (V 0), .int .i64 (V 1), .int .i64 (V 2), .int .i64 (V 3), .int .i64 (V 4), .int .i64 (V 5), .int .i64 (V 6), .int .i64 (V 7), .int .i64 (V 8), .int .i64 (V 9), .int .i64 (V 10), .int .i64 (V 11)] := rfl
      rw [hW3]
      clear hW3 hrg HTh p0 g0 p1 g1 p2 g2 p3 g3 p4 g4 p5 g5 p6 g6 p7 g7 p8 g8 p9 g9 p10 g10 p11 g11
      generalize w2.setCells X 0 [.int .i64 (V 0), .int .i64 (V 1), .int .i64 (V 2), .int .i64 (V 3), .int .i64 (V 4), .int .i64 (V 5), .int .i64 (V 6), .int .i64 (V 7), .int .i64 (V 8), .int .i64 (V 9), .int .i64 (V 10), .int .i64 (V 11)] = W3 at *
      have HI3 := Lib.hid HI3'.out
      have HV3 := Lib.hid (show RdI W3 W3.heap.size (some ⟨X, 0, none⟩) 12 V from fun _ => ⟨X, 0, rfl, hlt3, hv3⟩)
      clear HI3' HI2 hv3 hlt3 hXl
      refine (indexZ_any V 12 _ _ W3 (by omega) HV3.out).mono ?_
      rintro e w4 ⟨mi, rfl, hz, hb⟩
      have HI4 := Lib.hid (HI3.out.below HJ.out hb)
      have HV4 := Lib.hid (HV3.out.later hb)
      have x0 := HI4.out.xb
      clear hb HI3 HV3
      rcases hz with ⟨rfl, hfull⟩ | ⟨j, rfl, hj, hVj, hbefore⟩
      · have HFull := Lib.hid hfull
        clear hfull
        obtain ⟨bX, off, eX, _, hcX⟩ := HV4.out (by omega)
        cases eX
        have hcz : ∀ i, i < 12 → w4.cell? ⟨X, i, none⟩ = some (.int .i64 (V i)) := fun i hi => by have := hcX i hi; rw [Nat.zero_add] at this; exact this
        have r0 := hcz 0 (by omega)
        have r1 := hcz 1 (by omega)
        have r2 := hcz 2 (by omega)
        have r3 := hcz 3 (by omega)
        have r4 := hcz 4 (by omega)
        have r5 := hcz 5 (by omega)
        have r6 := hcz 6 (by omega)
        have r7 := hcz 7 (by omega)
        have r8 := hcz 8 (by omega)
        have r9 := hcz 9 (by omega)
        have r10 := hcz 10 (by omega)
        have r11 := hcz 11 (by omega)
        have HHr := Lib.hid hr
        have HSf := Lib.hid (sol_full HOk.out HI4.out.okd HRuns.out (by omega) HFull.out (fun i => decide (0 < V i)) (fun i _ => rfl))
        clear hcX hcz x0 hr
        go_upto_region 8 with fail
        refine (wpIn_wide (n := n)).1 ?_
        have HVal := Lib.hid (values_of V w4)
        unfold arrV cells12 at HVal
        gi_wp2_with fail
        refine ⟨trivial, (callsIn_wide.2 HVal.out).mono ?_⟩
        rintro e w5 ⟨G, rfl, hG, hOw, hb⟩
        have HI5 := Lib.hid (HI4.out.below HJ.out hb)
        obtain ⟨k, hk⟩ : ∃ k, numU (fun i => decide (0 < V i)) 12 = k := ⟨_, rfl⟩
        have hOk : OwnB w5 G 12 12 (valN k) := hk ▸ hOw.to fun i hi => (valN_num (fun i => decide (0 < V i)) hi).symm
        rw [hk] at HSf
        have hNG : N ≤ G := Nat.le_trans HI4.out.hN hG
        have hpre : pre ++ [k] <+: L := ⟨remR (qS p m) D.reverse, by rw [← HE.out, HSf.out, List.append_assoc]⟩
        have HE5 := Lib.hid (show (pre ++ [k]) ++ remR (qS p m) D.reverse = L by rw [← HE.out, HSf.out, List.append_assoc])
        obtain ⟨fn, tmps, assign, body, hy, hR⟩ := HY.out pre k G w5 HI5.out.j hpre hNG hOk
        clear hG hOw hb hk hOk hpre HVal r0 r1 r2 r3 r4 r5 r6 r7 r8 r9 r10 r11
        gi_wp2
        refine hR.mono ?_
        rintro e W6 (⟨rfl, hj6, hk6⟩ | ⟨rfl, hjx⟩)
        · have HI6 := Lib.hid (HI5.out.body hk6 HK.out hSN hBN hj6)
          clear hj6 hk6 hR hy
          gi_wp2
          go_wp2
          go_step3
          rename_i hKK
          refine hKK _ _ ?_
          refine wp_mono (HC.out (muR D.reverse) _ _ ?_) ?_
          · exact ⟨X, D, pre ++ [k], dv, ⟨rfl, rfl, rfl, rfl, rfl⟩, HI6.out, .inr ⟨trivial, HE5.out, rfl⟩⟩
          · have hltn : muR D.reverse < n1 := by
              rw [HN1.out]
              have := aV_pos hDl
              omega
            exact Exit.jumps2_mono fun l a w ⟨n', h, hj⟩ => ⟨n', Nat.lt_trans h hltn, hj⟩
        · clear hR hy
          gi_wp2
          go_wp2
          try simp only [Exit.jumps2]
          refine bodyPost_ret (results_none rfl _ _ _) rfl ⟨⟨_, rfl⟩, .inr ⟨_, hjx⟩⟩
      · have HBe := Lib.hid hbefore
        have HVj := Lib.hid hVj
        have hj0 : (0 : Int) ≤ (j : Int) := by omega
        have hlz : litB (-((j : Int) + 1)) = true := litB_iff.2 ⟨by omega, by omega, by omega⟩
        have hext := (HRuns.out.ends fun i hi => (HOk.out i hi).1).1
        have hst : stV V (-((j : Int) + 1)) = 0 := by
          unfold stV
          rw [if_neg (by omega), show (- -((j : Int) + 1) - 1).toNat = j by omega, HVj.out]
          rfl
        have HOd := Lib.hid (okD_more HI4.out.okd hext hlz hst)
        have hlen2 := okD_len HOd.out
        rw [List.length_append, List.length_singleton] at hlen2
        have HSp := Lib.hid (sol_split (m := j) HOk.out HI4.out.okd HRuns.out hj HBe.out)
        clear hbefore hVj hlz hext hst
        go_wp2_with fail
        refine (decide_any S B N dv D ((j : Int) + 1) w4 (by omega) (by omega) (by omega) HI4.out.hN HI4.out.box HI4.out.row).mono ?_
        rintro e w5 ⟨rfl, dv', hbox, hrow, hms⟩
        have HI5 := Lib.hid (HI4.out.move HJ.out hms hbox hrow HOd.out)
        clear hbox hrow hms
        go_wp2
        go_step3
        exact ⟨.inl rfl, aV (D ++ [-((j : Int) + 1)]).length + muR (D ++ [-((j : Int) + 1)]).reverse, by rw [HN1.out]; exact mu_visit (by omega) (by omega), X, D ++ [-((j : Int) + 1)], pre, dv', ⟨rfl, rfl, rfl, rfl, rfl⟩, HI5.out, .inl ⟨rfl, by rw [← HE.out, rem_visit HSp.out], rfl⟩⟩
end Go.Proofs.Ytckaeaclclhapaa

namespace Go.Proofs.Ytckaeaclclhapaa
open Go.ChangeShapes Go.WideShapes Go.ChangeAt Go.RowKit Go.Shelf

theorem Kx.refl (K : Nat → Prop) (A : World) : Kx K A A := ⟨rfl, rfl, rfl, Nat.le_refl _, fun _ _ h _ _ => h⟩
theorem Kx.trans {K : Nat → Prop} {A B C : World} (h : Kx K A B) (k : Kx K B C) : Kx K A C :=
  ⟨k.os.trans h.os, k.tape.trans h.tape, k.output.trans h.output, Nat.le_trans h.size k.size, fun i o hi h0 h1 => k.block i o (h.block i o hi h0 h1) h0 h1⟩
theorem Kx.putObj (K : Nat → Prop) {A : World} {l : Nat} {r : Obj} (hr : A.heap[l]? = some r) (hc : r.isCells = false) (o' : Obj) : Kx K A (A.putObj l o') :=
  ⟨rfl, rfl, rfl, by simp, fun k o hk hcc _ => by
    by_cases e : k = l
    · subst e
      rw [hr] at hk
      cases hk
      rw [hc] at hcc
      cases hcc
    · exact (World.putObj_heap_other e).trans hk⟩
theorem Kx.alloc (K : Nat → Prop) (A : World) (o' : Obj) : Kx K A (A.alloc o') :=
  ⟨rfl, rfl, rfl, by simp, fun k _ hk _ _ => (Below.heap_alloc A o' k (lt_heap hk)).trans hk⟩
theorem Kx.setC {K : Nat → Prop} (A : World) {C : Nat} (hK : K C) (o : Nat) (u : Value) : Kx K A (A.setCell ⟨C, o, none⟩ u) :=
  ⟨rfl, rfl, rfl, by simp [World.setCell], fun k x hk _ h => (Below.heap_setCell A ⟨C, o, none⟩ u k (fun e => h (e ▸ hK))).trans hk⟩
/-- What may turn beside the box S: what a search owns, and what is newer than n. -/
def isNew (n N k : Nat) (o : Obj) : Prop := isOwn N k o ∨ n ≤ k
theorem ms_putObj {n N S l : Nat} {A : World} (hl : n ≤ l) (o' : Obj) : Ms (isNew n N) S A (A.putObj l o') :=
  ⟨rfl, rfl, rfl, by simp, fun k _ hk _ h => by
    have hne : k ≠ l := fun e => h (.inr (by omega))
    exact (World.putObj_heap_other hne).trans hk⟩
variable {n : Nat} {P : Program}
set_option maxHeartbeats 1000000 in
theorem range_sol {g : Operand} {ps : Array Tmp} {assign body : Code} {Q : Exit → Act → World → Prop} {a : Act} {w : World} {K : Nat → Prop} {N S : Nat} {L : List Nat}
    (h1 : 1 ≤ n) {gf : Nat} {lb : Array Value} (hg : a.eval g = .func (.func gf) #[] lb) (eg : ∀ args w, (callFunc gf args).run P w = .ok (.enter gf args) w)
    (hseq : ∀ (l : Nat) (J Jx : List Nat → World → Prop) (W : World), Below w.heap.size w W → (∀ pre A B, J pre A → Ms (isOwn N) S A B → J pre B) →
      (∀ pre k G W1, J pre W1 → pre ++ [k] <+: L → N ≤ G → OwnB W1 G 12 12 (valN k) → YieldAt Fence.wide (n - 1 - 1) P l #[.slice (some ⟨G, 0, none⟩) 12 12] W1 fun e W' => (e = .returned (.bool true) ∧ J (pre ++ [k]) W' ∧ Kx K W1 W') ∨ (e = .returned (.bool false) ∧ Jx (pre ++ [k]) W')) →
      J [] W → CallsIn Fence.wide (n - 1) P gf (#[.func (.yield l) #[] #[]] ++ lb) W fun e W' => (∃ v, e = .returned v) ∧ (J L W' ∨ ∃ pre, Jx pre W'))
    (hSw : S < w.heap.size) (hps : ps.size = 1)
    (I : List Nat → World → Prop) (hI : ∀ pre A B, I pre A → Ms (isNew w.heap.size N) S A B → I pre B) (h0 : I [] w)
    (hround : ∀ (l : Nat) (pre : List Nat) (k G : Nat) (W : World) (r : Obj), w.heap.size ≤ l → W.heap[l]? = some r → r.isCells = false → I pre W → pre ++ [k] <+: L → N ≤ G → OwnB W G 12 12 (valN k) →
      assign.wpIn (Fence.wide.inRound l) (n - 1 - 1) P (Exit.then (fun a' W' => KeepsOthers W W' ∧ Kx K W W' ∧ ∀ o', body.wpIn (Fence.wide.inRound l) (n - 1 - 1) P (fun e _ W2 => e = .normal ∧ KeepsOthers (W'.putObj l o') W2 ∧ Kx K (W'.putObj l o') W2 ∧ I (pre ++ [k]) W2) a' (W'.putObj l o')) (fun _ _ _ => False))
        { tmps := (ps.zip (#[.slice (some ⟨G, 0, none⟩) 12 12] : Array Value)).foldl (fun t (p, v) => t.setIfInBounds p v) a.tmps, defers := [] } W)
    (hdone : ∀ (D : Nat) (W : World), w.heap.size ≤ D → I L W → W.heap[D]? = some (.deferred (some [])) → Q .normal { a with defers := { target := .collected D, args := #[] } :: a.defers } W) :
    (Code.rangeFunc g ps assign body).wpIn Fence.wide n P Q a w := by
  refine wpIn_rangeFunc fun fn hfn => ?_
  rw [show Fence.wide.round = none from rfl]
  obtain ⟨rec, hrec⟩ : ∃ rec : LoopState → Option Code → Loop, rec = fun st pe => { state := st, pending := pe, fn, tmps := a.tmps, params := ps, assign, body, defers := w.heap.size } := ⟨_, rfl⟩
  obtain ⟨W1, hW1⟩ : ∃ W1, (w.alloc (.deferred (some []))).alloc (.loop (rec .ready none)) = W1 := ⟨_, rfl⟩
  have hL1 : W1.heap[w.heap.size + 1]? = some (.loop (rec .ready none)) := by
    rw [← hW1]
    have := World.alloc_heap_new (w.alloc (.deferred (some []))) (.loop (rec .ready none))
    rwa [World.size_alloc] at this
  have hD1 : W1.heap[w.heap.size]? = some (.deferred (some [])) := by
    rw [← hW1]
    exact (Below.heap_alloc _ _ _ (by simp)).trans (World.alloc_heap_new w _)
  have hbW : Below w.heap.size w W1 := by
    rw [← hW1]
    exact bl_alloc (bl_alloc (Below.refl _ _) _) _
  have hI1 : I [] W1 := hI _ _ _ h0 (ms_below hbW)
  refine ⟨w.heap.size + 1, [{ target := .collected w.heap.size, args := #[] }], W1, { target := .fn (.func gf) lb, args := #[.func (.yield (w.heap.size + 1)) #[] #[]] }, W1, gf,
    #[.func (.yield (w.heap.size + 1)) #[] #[]] ++ lb, W1, ?_, ?_, ?_, ?_, fun _ => h1, ?_⟩
  · rw [← hW1, hrec]
    exact run_enterLoop_outer _ _ _ _ _
  · simp only [resolve, hg]
    simp [go_sem]
  · intro f' hf'
    simp [Target.leads] at hf'
    subst hf'
    exact trivial
  · simp [invoke, go_sem, eg]
  · refine (hseq (w.heap.size + 1) (fun pre W => I pre W ∧ W.heap[w.heap.size + 1]? = some (.loop (rec .ready none)) ∧ W.heap[w.heap.size]? = some (.deferred (some []))) (fun _ _ => False) W1 hbW ?_ ?_ ⟨hI1, hL1, hD1⟩).mono ?_
    · rintro pre A B ⟨hi, hl, hd⟩ hm
      exact ⟨hI _ _ _ hi (hm.mono fun _ _ h => .inl h), hm.block _ _ hl (by omega) (by rintro (⟨_, _, _, h⟩ | ⟨_, _, _, h⟩) <;> cases h), hm.block _ _ hd (by omega) (by rintro (⟨_, _, _, h⟩ | ⟨_, _, _, h⟩) <;> cases h)⟩
    · rintro pre k G W ⟨hi, hl, hd⟩ hpre hG hO
      have k1 : w.heap.size + 1 < W.heap.size := lt_heap hl
      have hy := run_yield (P := P) (args := #[.slice (some ⟨G, 0, none⟩) 12 12]) hl (by rw [hrec]; exact hps.symm)
      rw [hrec] at hy
      refine ⟨fn, _, assign, body, hy, roundIn_of_wpIn hfn (wpIn_mono (hround _ pre k G W _ (by omega) hl rfl hi hpre hG hO) ?_)⟩
      rintro e a' W' hp
      cases e with
      | normal =>
        obtain ⟨hk1, hh1, hbody⟩ := hp
        have hl1 := hk1.same _ _ hl rfl
        have hd1 := hk1.same _ _ hd rfl
        have k2 : w.heap.size + 1 < W'.heap.size := lt_heap hl1
        refine ⟨_, run_beginRound hl1 (by rw [hrec]), ?_⟩
        have hl2 : (W'.putObj (w.heap.size + 1) (.loop { rec .ready none with state := .busy })).heap[w.heap.size + 1]? = some (.loop { rec .ready none with state := .busy }) := World.putObj_heap_same k2
        have hd2 : (W'.putObj (w.heap.size + 1) (.loop { rec .ready none with state := .busy })).heap[w.heap.size]? = some (.deferred (some [])) := (World.putObj_heap_other (by omega)).trans hd1
        refine wpIn_mono (hbody _) ?_
        rintro e a2 W2 ⟨rfl, hk3, hh3, hi3⟩
        have hl3 := hk3.same _ _ hl2 rfl
        have hd3 := hk3.same _ _ hd2 rfl
        have k3 : w.heap.size + 1 < W2.heap.size := lt_heap hl3
        have hr := run_endRound (P := P) none hl3
        rw [hrec] at hr
        refine ⟨_, _, hr, .inl ⟨rfl, ⟨?_, ?_, (World.putObj_heap_other (by omega)).trans hd3⟩, ?_⟩⟩
        · exact hI _ _ _ hi3 (ms_putObj (by omega) _)
        · rw [hrec]
          exact World.putObj_heap_same k3
        · exact ((hh1.trans (Kx.putObj K hl1 rfl _)).trans hh3).trans (Kx.putObj K hl3 rfl _)
      | ret => exact hp.elim
      | exit id => exact hp.elim
      | goto t => exact hp.elim
      | panic ch => exact hp.elim
      | outgrown => exact hp.elim
    · rintro e W2 ⟨⟨v, rfl⟩, ⟨hi, hl, hd⟩ | ⟨_, h⟩⟩
      · have hr := run_endLoop (P := P) hl (by rw [hrec]; simp)
        rw [hrec] at hr
        exact ⟨none, _, hr, hdone _ _ (Nat.le_refl _) (hI _ _ _ hi (ms_putObj (by omega) _)) ((World.putObj_heap_other (by omega)).trans hd)⟩
      · exact h.elim
end Go.Proofs.Ytckaeaclclhapaa

namespace Go.Proofs.Ytckaeaclclhapaa
open Go.ChangeShapes Go.WideShapes Go.ChangeAt Go.RowKit Go.Shelf

theorem cell_block {w : World} {b o : Nat} {v : Value} (h : w.cell? ⟨b, o, none⟩ = some v) : ∃ cs T fr, w.heap[b]? = some (.cells cs T fr) ∧ o < cs.size := by
  have hlt := World.block_lt_of_cell? w ⟨b, o, none⟩ h
  have he : w.heap[b]? = some w.heap[b] := Array.getElem?_eq_getElem hlt
  unfold World.cell? at h
  simp only [he] at h
  cases hb : w.heap[b] with
  | cells cs t fr =>
    rw [hb] at he
    refine ⟨cs, t, fr, he, ?_⟩
    simp [hb] at h
    exact (Array.getElem?_eq_some_iff.1 h).1
  | _ => simp [hb] at h
section
variable {K : Nat → Prop} {N S B m s C : Nat} {lv : Value} {p : Nat → Con} {sl : Nat → Int} {us : Nat → List (Nat × Int)} {uv : Nat → Value} {w w' : World}
theorem rowV_at {base : Nat} {e : TypeId} {size n : Nat} {v : Value} {xs : List Value} (h : w.ownsRow base e size v n xs) (hk : ∀ g cs, v.ownBlock = some g → w.heap[g]? = some (.cells cs e (0, 0)) → w'.heap[g]? = some (.cells cs e (0, 0))) : w'.ownsRow base e size v n xs := by
  refine ⟨h.1, ?_⟩
  rcases h.2 with h0 | ⟨g, cap, cur, e1, h1, h2, h3⟩
  · exact .inl h0
  · exact .inr ⟨g, cap, cur, e1, h1, hk g cur (by rw [e1]; rfl) h2, h3⟩
/-- A propagator all of whose blocks are at N or past it stays while a search goes on, if the one block C of the round's own has a single cell. -/
theorem Pg.rl (h : Pg w (fun k => k < N) B lv m s p sl us uv) {cs : Array Value} {T : TypeId} {fr : Nat × Nat} (hC : w.heap[C]? = some (.cells cs T fr)) (h1 : cs.size ≤ 1) (hCN : C < N) (hS : N ≤ S) {u : Value} (hbS : BoxS w S B u) (hr : Rl (fun k => k = C) N S w w') :
    Pg w' (fun k => k < N ∧ k ≠ C) B lv m s p sl us uv := by
  have hNB : N ≤ B := Nat.le_of_not_lt h.f1
  have hNw := h.f0
  have hty : ∀ k x (t : TypeId) f, w.heap[k]? = some (.cells x t f) → N ≤ k → t ≠ 58 → t ≠ 94 → t ≠ 82 → w'.heap[k]? = some (.cells x t f) := fun k x t f hk hNk h2 h3 h4 => by
    refine hr.block k _ hk rfl (fun e => ?_) (fun e => ?_) ?_
    · have e' : k = C := e
      omega
    · subst e
      have h5 : w.heap[k]? = _ := hbS
      rw [hk] at h5
      injection h5 with h5
      injection h5 with _ h6 _
      exact h4 h6
    · rintro (⟨_, _, _, e⟩ | ⟨_, _, _, e⟩) <;> injection e with _ e _
      · exact h2 e
      · exact h3 e
  have hlo : ∀ k, k < N → k ≠ C → ∀ x t f, w.heap[k]? = some (.cells x t f) → w'.heap[k]? = some (.cells x t f) := fun k hk hkC x t f hx => by
    refine hr.block k _ hx rfl hkC (by omega) ?_
    rintro (⟨h, _⟩ | ⟨h, _⟩) <;> omega
  refine ⟨?_, ?_, ?_, h.d1, h.d2, h.d3, fun k hk => Nat.lt_of_lt_of_le (hNw k hk.1) hr.size, fun hh => h.f1 hh.1, fun b hb hh => h.f2 b hb hh.1, fun j hj b hb hh => h.f3 j hj b hb hh.1⟩
  · obtain ⟨cs, c1, c2⟩ := h.cel
    exact ⟨cs, hty B _ _ _ c1 hNB (by decide) (by decide) (by decide), c2⟩
  · obtain ⟨xs, hx, hc⟩ := h.lst
    refine ⟨xs, rowV_at hx fun g cs hg hh => hty g _ _ _ hh (Nat.le_of_not_lt (h.f2 g hg)) (by decide) (by decide) (by decide), fun i hi => ?_⟩
    obtain ⟨Ai, ci, e1, e2, e3⟩ := hc i hi
    refine ⟨Ai, ci, e1, e2, fun hn => ?_⟩
    obtain ⟨b, off, eb, hb, hcel⟩ := e3 hn
    have hbC : b ≠ C := fun e => by
      subst e
      obtain ⟨cs', T', fr', g1, g2⟩ := cell_block (hcel 0 hn).2
      rw [hC] at g1
      cases g1
      omega
    obtain ⟨cs', T', fr', g1, _⟩ := cell_block (hcel 0 hn).1
    have hbk : w'.heap[b]? = w.heap[b]? := (hlo b hb hbC _ _ _ g1).trans g1.symm
    exact ⟨b, off, eb, ⟨hb, hbC⟩, fun i hi => ⟨(World.cell?_of_block hbk).trans (hcel i hi).1, (World.cell?_of_block hbk).trans (hcel i hi).2⟩⟩
  · intro j hj
    exact rowV_at (h.use j hj) fun g cs hg hh => hty g _ _ _ hh (Nat.le_of_not_lt (h.f3 j hj g hg)) (by decide) (by decide) (by decide)
end

set_option maxRecDepth 100000 in
set_option maxHeartbeats 800000 in
theorem trueLits_nil (w : World) : Calls Try.prog 41 #[.slice none 0 0] w fun e w' => e = .returned (.slice none 0 0) ∧ Below w.heap.size w w' := by
  go_enter Try.func41, Try.ntmps41
  go_wp2
  go_loopw [3, 9] (fun l i wr => l = .slice none 0 0 ∧ i = .int .i64 0 ∧ wr = w) (fun _ _ _ => 0)
  case atStart => exact ⟨rfl, rfl, rfl⟩
  case round =>
    obtain ⟨rfl, rfl, rfl⟩ := hrel
    go_wp2
    all_goals try go_ret
    all_goals trace_state
    all_goals exact ⟨rfl, Below.refl _ _⟩

set_option maxRecDepth 100000 in
set_option maxHeartbeats 800000 in
/-- The iterator over all solutions of constraints. -/
theorem solFrom_any (A : Option Addr) (m cap : Nat) (p : Nat → Con) (w : World) (hm : m ≤ 1400) (hr : RdP w w.heap.size A m p) (hok : ∀ i, i < m → okC (p i) ∧ (p i).n ≤ 1048576) :
    Calls Try.prog 21 #[.slice A m cap, .slice none 0 0] w fun e w' => ∃ B S Bx lv uv, e = .returned (.func (.func 49) #[] #[.pointer (some ⟨Bx, 0, none⟩)]) ∧ Pg w' (fun k => k < w.heap.size) B lv m m p (fun i => slkC (p i) z0) (usP p m) uv ∧ Below w.heap.size w w' ∧ w.heap.size ≤ S ∧ w.heap.size ≤ Bx ∧ BoxS w' S B (.slice none 0 0) ∧ w'.heap[Bx]? = some (.cells #[.pointer (some ⟨S, 0, none⟩)] 75 (0, 0)) := by
  have HR := Lib.hid hr
  have HO := Lib.hid hok
  clear hr hok
  go_enter Try.func21, Try.ntmps21
  go_wp2_with fail
  refine (newPg_any A m cap p _ hm HR.out HO.out).mono ?_
  rintro e w1 ⟨B, lv, uv, rfl, hpg, hb⟩
  have HP := Lib.hid hpg
  have HB := Lib.hid hb
  clear hpg hb
  go_wp2_with fail
  refine (trueLits_nil _).mono ?_
  rintro e w2 ⟨rfl, hb⟩
  have HP2 := Lib.hid (HP.out.below hb)
  have HB2 := Lib.hid (bl_trans HB.out hb)
  clear hb HP HB
  go_wp2
  go_ret
  have hz := HB2.out.size
  refine ⟨B, w2.heap.size, w2.heap.size + 1, lv, uv, rfl, (HP2.out.below (bl_alloc (Below.refl _ _) _)).below (bl_alloc (Below.refl _ _) _), bl_trans HB2.out (bl_alloc (bl_alloc (Below.refl _ _) _) _), hz, by omega, ?_, ?_⟩
  · exact (Below.heap_alloc _ _ _ (by simp)).trans (heap_alloc_new _ _)
  · have h9 := heap_alloc_new (w2.alloc (.cells #[.pointer (some ⟨B, 0, none⟩), .slice none 0 0, .bool true, .pointer none] 82)) (.cells #[.pointer (some ⟨w2.heap.size, 0, none⟩)] 75)
    rw [World.size_alloc] at h9
    exact h9
end Go.Proofs.Ytckaeaclclhapaa

namespace Go.Proofs.Ytckaeaclclhapaa
open Go.ChangeShapes Go.WideShapes Go.ChangeAt Go.RowKit Go.Shelf

attribute [local go_sem] Oper.semAt_some

theorem Ms.belowN {n N S c : Nat} {A B : World} (h : Ms (isNew n N) S A B) (h1 : c ≤ N) (h2 : c ≤ n) (h3 : c ≤ S) (h4 : c ≤ A.heap.size) : Below c A B :=
  ⟨h.os, h.tape, h.output, h.size, fun k hk => by
    have he : A.heap[k]? = some (A.heap[k]'(by omega)) := Array.getElem?_eq_getElem (by omega)
    refine (h.block k _ he (by omega) ?_).trans he.symm
    rintro ((⟨h5, _⟩ | ⟨h5, _⟩) | h5) <;> omega⟩
/-- A cell that is not frozen. -/
def Cel1 (W : World) (j : Nat) (v : Value) : Prop := W.cell? ⟨j, 0, none⟩ = some v ∧ W.frozen? ⟨j, 0, none⟩ = false
section
variable {W W' : World} {j : Nat} {v u : Value}
theorem Cel1.same (h : Cel1 W j v) (hh : W'.heap[j]? = W.heap[j]?) : Cel1 W' j v :=
  ⟨(World.cell?_of_block (w := W) hh).trans h.1, by have := h.2; simp only [World.frozen?, hh] at this ⊢; exact this⟩
theorem Cel1.lt (h : Cel1 W j v) : j < W.heap.size := World.block_lt_of_cell? W ⟨j, 0, none⟩ h.1
theorem Cel1.put (h : Cel1 W j v) : Cel1 (W.setCell ⟨j, 0, none⟩ u) j u :=
  ⟨World.cell?_setCell_same' _ _ _ (by rw [h.1]; rfl), by rw [World.frozen?_setCell]; exact h.2⟩
end
def sols (m : Nat) (p : Nat → Con) : List Nat := solL (qS p m) []
theorem sols_len (m : Nat) (p : Nat → Con) : (sols m p).length ≤ 4096 := by
  unfold sols solL
  exact Nat.le_trans (List.length_filter_le _ _) (by simp)

set_option maxRecDepth 100000 in
set_option maxHeartbeats 3200000 in
theorem countLoop_in (n : Nat) (hn : 3 ≤ n) (A : Option Addr) (m cap : Nat) (p : Nat → Con) (w : World) (hm : m ≤ 1048576) (hs : ∀ i, i < m → (p i).n ≤ 1048576) (hv : probB m p = true) (hr : RdP w w.heap.size A m p) :
    CallsIn Fence.wide n Try.prog 8 #[.slice A m cap] w fun e W' => e = .returned (.int .i64 (sols m p).length) ∧ Below w.heap.size w W' := by
  have h1 : 1 ≤ n := by omega
  have hpo := prob_ok hv
  have HOk := Lib.hid (show ∀ i, i < m → okC (p i) ∧ (p i).n ≤ 1048576 from fun i hi => ⟨hpo.2 i hi, hs i hi⟩)
  have hm4 : m ≤ 1400 := by omega
  have Hpr := Lib.hid (implProblem_any A m cap p w hm hs hr)
  have Hr := Lib.hid hr
  have Hlen := Lib.hid (sols_len m p)
  rw [hv] at Hpr
  clear hpo hs hr hv
  refine callsIn_of_wp_marks Try.func8 rfl trivial ?_ rfl
  simp only [Try.ntmps8, List.size_toArray, List.length_cons, List.length_nil, Nat.reduceAdd, Nat.reduceSub, Array.replicate_succ, Array.replicate_zero, List.push_toArray, List.append_toArray, List.nil_append, List.cons_append]
  gi_wp2_with fail
  refine ⟨trivial, (callsIn_wide.2 Hpr.out).mono ?_⟩
  rintro e w1 ⟨rfl, hb⟩
  have HB1 := Lib.hid hb
  clear hb Hpr
  gi_wp2_with fail
  have hcb := heap_alloc_new w1 (.cells #[.int .i64 0] 3)
  have HBA := Lib.hid (bl_alloc (Below.refl w1.heap.size w1) (.cells #[.int .i64 0] 3))
  have hsz : (w1.alloc (.cells #[.int .i64 0] 3)).heap.size = w1.heap.size + 1 := World.size_alloc _ _
  generalize w1.alloc (.cells #[.int .i64 0] 3) = w2 at *
  have hw1 := HB1.out.size
  have HB2 := Lib.hid (HB1.out.trans (HBA.out.mono hw1))
  obtain ⟨C, hCe⟩ : ∃ C, w1.heap.size = C := ⟨_, rfl⟩
  rw [hCe] at hcb hsz hw1 ⊢
  have HCb := Lib.hid hcb
  clear hcb HBA
  refine ⟨trivial, (callsIn_wide.2 (solFrom_any A m cap p w2 hm4 (Hr.out.later HB2.out) HOk.out)).mono ?_⟩
  rintro e w3 ⟨B, S, Bx, lv, uv, rfl, hpg, hb, hS, hBx, hbs, hbx⟩
  have hz3 := hb.size
  have HP := Lib.hid hpg
  have HS := Lib.hid hbs
  have HX := Lib.hid hbx
  have HC3 := Lib.hid ((hb.block C (by omega)).trans HCb.out)
  have HB3 := Lib.hid (HB2.out.trans (hb.mono (by omega)))
  have hSw := hbs.lt
  clear hpg hb hbs hbx HCb HB2
  gi_wp2_with fail
  have hN3 : w2.heap.size ≤ w3.heap.size := hz3
  obtain ⟨N, hNe⟩ : ∃ N, w2.heap.size = N := ⟨_, rfl⟩
  rw [hNe] at hsz hS hBx hz3 HP hN3
  have hseq : ∀ (l : Nat) (J Jx : List Nat → World → Prop) (W : World), Below w3.heap.size w3 W → (∀ pre A B, J pre A → Ms (isOwn N) S A B → J pre B) →
      (∀ pre k G W1, J pre W1 → pre ++ [k] <+: sols m p → N ≤ G → OwnB W1 G 12 12 (valN k) → YieldAt Fence.wide (n - 1 - 1) Try.prog l #[.slice (some ⟨G, 0, none⟩) 12 12] W1 fun e W' => (e = .returned (.bool true) ∧ J (pre ++ [k]) W' ∧ Kx (fun k => k = C) W1 W') ∨ (e = .returned (.bool false) ∧ Jx (pre ++ [k]) W')) →
      J [] W → CallsIn Fence.wide (n - 1) Try.prog 49 (#[.func (.yield l) #[] #[]] ++ #[.pointer (some ⟨Bx, 0, none⟩)]) W fun e W' => (∃ v, e = .returned v) ∧ (J (sols m p) W' ∨ ∃ pre, Jx pre W') := by
    intro l J Jx W hb hJ hY hj
    have hcW := (hb.block C (by omega)).trans HC3.out
    refine callsIn_wide.2 (solutions_any (n - 1) l Bx S B N m (fun k => k < N ∧ k ≠ C) lv p uv (fun k => k = C) W J Jx [] (.slice none 0 0) (sols m p) W (by omega) hm4 HOk.out (fun k hk => by have hk' : k = C := hk; omega) hS hBx (fun W' hrl => (HP.out.below hb).rl hcW (by simp) (by omega) hS (HS.out.below hb) hrl) hJ hY ((hb.block Bx (lt_heap HX.out)).trans HX.out) (HS.out.below hb) (DecR.nil _ _) (Rl.refl _ _ _ _) ?_ hj (Nat.le_trans hN3 hb.size) ?_)
    · exact okD_nil
    · simp [sols, remR]
  have Hseq := Lib.hid hseq
  clear hseq
  refine range_sol (K := fun k => k = C) (N := N) (S := S) (L := sols m p) h1 (gf := 49) (lb := #[.pointer (some ⟨Bx, 0, none⟩)]) rfl (enters_of Try.func49 (by kernel_rfl) rfl)
    Hseq.out hSw rfl (fun pre W => Cel1 W C (.int .i64 pre.length) ∧ Below C w3 W) ?hI ⟨⟨(cell_of_row w3 C _ _ _ _ HC3.out).trans rfl, by simp [World.frozen?, HC3.out]⟩, Below.refl _ _⟩ ?round ?done
  case hI =>
    rintro pre X Y ⟨hc, hB⟩ hmv
    have hb := hmv.belowN (c := C + 1) (by omega) (by omega) (by omega) hc.lt
    exact ⟨hc.same (hb.block C (by omega)), hB.trans (hb.mono (by omega))⟩
  case round =>
    rintro l1 pre k G W r hl1 hr1 hrc ⟨hc, hB⟩ hpre hG hO
    have hle : pre.length + 1 ≤ 4096 := by
      have h5 := hpre.length_le
      have h6 := Hlen.out
      rw [List.length_append, List.length_singleton] at h5
      omega
    have zl : l1 < W.heap.size := lt_heap hr1
    have zC := hc.lt
    clear hO hpre
    gi_wp2
    refine ⟨KeepsOthers.refl _, Kx.refl _ _, fun o' => ?_⟩
    have hne : C ≠ l1 := by omega
    have hcX : Cel1 (W.putObj l1 o') C (.int .i64 pre.length) := hc.same (World.putObj_heap_other hne)
    have hbX : Below C w3 (W.putObj l1 o') := hB.trans ⟨rfl, rfl, rfl, by simp, fun k hk => World.putObj_heap_other (by omega)⟩
    clear hc hB hr1 hrc zl zC
    generalize W.putObj l1 o' = X at *
    have HC := Lib.hid hcX
    have HX2 := Lib.hid hbX
    obtain ⟨s0, s1⟩ := hcX
    have hle' : ((pre.length : Nat) : Int) + 1 ≤ 4096 := by omega
    clear hbX
    gi_wp2
    refine ⟨KeepsOthers.setCell _ _ _, Kx.setC (K := fun k => k = C) X rfl 0 _, HC.out.put, HX2.out.setCell (p := ⟨C, 0, none⟩) (Nat.le_refl _) _⟩
  case done =>
    rintro D W hD ⟨hc, hB⟩ hdef
    obtain ⟨hc0, -⟩ := hc
    gi_wp2
    refine ⟨by simp, .inl ⟨_, _, rfl, run_takeDeferred hdef, ?_⟩⟩
    refine ⟨_, results_tmp rfl _ _ _, rfl, ?_⟩
    exact (HB3.out.trans (hB.mono hw1)).trans (belowK_b (w := w3) (by omega) W D _ _ hD hdef rfl rfl)
end Go.Proofs.Ytckaeaclclhapaa

namespace Go.Proofs.Ytckaeaclclhapaa
open Go.ChangeShapes Go.WideShapes Go.ChangeAt Go.RowKit Go.Shelf

theorem OwnB.turn1 {w : World} {G n : Nat} {v v' : Nat → Bool} {i : Nat} {b : Bool} (h : OwnB w G n n v) (hv : ∀ j, j < n → v' j = if j = i then b else v j) : OwnB (w.setCell ⟨G, i, none⟩ (.bool b)) G n n v' := by
  obtain ⟨cs, hh, h1, h2⟩ := h
  refine ⟨cs.setIfInBounds i (.bool b), by simp [World.setCell, Array.getElem?_modify, hh], by simp [h1], fun j hj => ?_⟩
  rw [Array.getElem?_setIfInBounds, hv j hj]
  by_cases e : j = i
  · subst e
    rw [if_pos rfl, if_pos (by omega), if_pos rfl]
  · rw [if_neg (fun e' => e e'.symm), if_neg e]
    exact h2 j hj

def cntS (m : Nat) (p : Nat → Con) : Nat := if probB m p = true then (sols m p).length else 0
/-- The solutions below k. -/
def cntTo (m : Nat) (p : Nat → Con) (k : Nat) : Nat := ((List.range k).filter (qS p m)).length
theorem cntTo_succ (m : Nat) (p : Nat → Con) (k : Nat) : cntTo m p (k + 1) = cntTo m p k + (if qS p m k = true then 1 else 0) := by
  unfold cntTo
  rw [List.range_succ, List.filter_append, List.length_append]
  by_cases h : qS p m k = true
  · simp [h]
  · simp [h]
theorem cntTo_le (m : Nat) (p : Nat → Con) (k : Nat) : cntTo m p k ≤ k := by
  unfold cntTo
  exact Nat.le_trans (List.length_filter_le _ _) (by simp)
theorem cntTo_all (m : Nat) (p : Nat → Con) : cntTo m p 4096 = (sols m p).length := by
  unfold cntTo sols
  rw [solL_none]

set_option maxRecDepth 100000 in
set_option maxHeartbeats 800000 in
theorem implCount_any (A : Option Addr) (m cap : Nat) (p : Nat → Con) (w : World) (hm : m ≤ 1048576) (hs : ∀ i, i < m → (p i).n ≤ 1048576) (hr : RdP w w.heap.size A m p) :
    Calls Try.prog 8 #[.slice A m cap] w fun e w' => e = .returned (.int .i64 (cntS m p)) ∧ Below w.heap.size w w' := by
  cases hv : probB m p with
  | false =>
    have Hpr := Lib.hid (implProblem_any A m cap p w hm hs hr)
    have hR : cntS m p = 0 := by unfold cntS; rw [hv]; rfl
    rw [hv] at Hpr
    rw [hR]
    clear hv hr hs hR
    go_enter Try.func8, Try.ntmps8
    go_wp2_with fail
    refine Hpr.out.mono ?_
    rintro e w1 ⟨rfl, hb⟩
    go_wp2
    go_ret
    exact ⟨rfl, hb⟩
  | true =>
    have hR : cntS m p = (sols m p).length := by unfold cntS; rw [if_pos hv]
    rw [hR]
    exact callsIn_wide.1 (countLoop_in 3 (by omega) A m cap p w hm hs hv hr)
end Go.Proofs.Ytckaeaclclhapaa

