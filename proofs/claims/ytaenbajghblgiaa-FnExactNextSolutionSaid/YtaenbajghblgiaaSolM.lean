/- Searching and counting: which values agree with decisions, how they split, in which order they come (no claim of its own). Conditions: as each theorem states. -/
import Derived.Test.YtaenbajghblgiaaPgZ
import Derived.Test.YtaenbajghblgiaaSatP
namespace Go.Proofs.Ytaenbajghblgiaa
open Go.ChangeShapes Go.WideShapes Go.ChangeAt Go.RowKit

/-- Values as a partial assignment. -/
def sg (u : Nat → Bool) (i : Nat) : Int := if u i then 1 else -1
theorem sg_rng (u : Nat → Bool) : rng (sg u) := fun i _ => by unfold sg; split <;> omega
theorem stV_sg (u : Nat → Bool) (z : Int) : stV (sg u) z = if trueP u z then 1 else -1 := by
  unfold stV trueP sg
  split
  · rfl
  · cases u (-z - 1).toNat <;> rfl
theorem nf_sg (u : Nat → Bool) (z : Int) : nfP (sg u) z = trueP u z := by
  unfold nfP
  rw [stV_sg]
  cases trueP u z <;> rfl
theorem eval_fixS {q : Con} (hq : okC q) (hn : q.n ≤ 1048576) {u : Nat → Bool} (h : evalV q.n q.c q.l q.bd 12 u = true) : fixC q (sg u) := by
  have hv : validB q.n q.c q.l q.bd = true := hq
  rw [evalV_yes hv, decide_eq_true_eq] at h
  have h1 : evW q.c q.l u q.n = sB q.c q.l (trueP u) q.n := sumW_sB hn (coef_of hv)
  rw [h1] at h
  have h2 : sB q.c q.l (nfP (sg u)) q.n = sB q.c q.l (trueP u) q.n := sB_congr (nf_sg u) q.n
  refine ⟨?_, ?_⟩
  · unfold slkC slk
    rw [h2]
    omega
  · rw [List.eq_nil_iff_forall_not_mem]
    intro z hz
    obtain ⟨j, _, _, h0, _⟩ := imL_mem.1 hz
    rw [stV_sg] at h0
    split at h0 <;> omega
theorem allE_at {p : Nat → Con} {u : Nat → Bool} {m i : Nat} (h : allE p u m = true) (hi : i < m) : evalV (p i).n (p i).c (p i).l (p i).bd 12 u = true := by
  induction m with
  | zero => omega
  | succ m ih =>
    unfold allE at h
    rw [Bool.and_eq_true] at h
    by_cases e : i = m
    · subst e; exact h.2
    · exact ih h.1 (by omega)
theorem allE_of {p : Nat → Con} {u : Nat → Bool} {m : Nat} (h : ∀ i, i < m → evalV (p i).n (p i).c (p i).l (p i).bd 12 u = true) : allE p u m = true := by
  induction m with
  | zero => rfl
  | succ m ih => exact allE_yes (ih fun i hi => h i (by omega)) (h m (by omega))
theorem sB_congrL {c l : Nat → Int} {P Q : Int → Bool} : ∀ n, (∀ k, k < n → P (l k) = Q (l k)) → sB c l P n = sB c l Q n := by
  intro n
  induction n with
  | zero => intro _; rfl
  | succ n ih =>
    intro h
    have h1 := ih fun k hk => h k (by omega)
    have h2 := h n (by omega)
    cases hp : P (l n) with
    | true => rw [sB_yes hp, sB_yes (h2 ▸ hp), h1]
    | false => rw [sB_no hp, sB_no (h2 ▸ hp), h1]
/-- Full values whose signs u gives. -/
def signs (V : Nat → Int) (u : Nat → Bool) : Prop := ∀ i, i < 12 → V i ≠ 0 ∧ u i = decide (0 < V i)
theorem nf_signs {V : Nat → Int} {u : Nat → Bool} (h : signs V u) {z : Int} (hz : litB z = true) : nfP V z = trueP u z := by
  obtain ⟨h0, h1, h2⟩ := litB_iff.1 hz
  unfold nfP stV trueP
  by_cases hp : 0 < z
  · obtain ⟨a, b⟩ := h (z - 1).toNat (by omega)
    rw [if_pos hp, if_pos hp, b, Bool.eq_iff_iff, decide_eq_true_eq, decide_eq_true_eq]
    omega
  · obtain ⟨a, b⟩ := h (-z - 1).toNat (by omega)
    rw [if_neg hp, if_neg hp, b, Bool.eq_iff_iff, Bool.not_eq_true', decide_eq_true_eq, decide_eq_false_iff_not]
    omega
theorem fix_evalS {q : Con} (hq : okC q) (hn : q.n ≤ 1048576) {V : Nat → Int} {u : Nat → Bool} (hs : signs V u) (h : ¬ slkC q V < 0) : evalV q.n q.c q.l q.bd 12 u = true := by
  have hv : validB q.n q.c q.l q.bd = true := hq
  rw [evalV_yes hv, decide_eq_true_eq]
  have h1 : evW q.c q.l u q.n = sB q.c q.l (trueP u) q.n := sumW_sB hn (coef_of hv)
  have h2 : sB q.c q.l (nfP V) q.n = sB q.c q.l (trueP u) q.n := sB_congrL q.n fun k hk => nf_signs hs (litAt (l := q.l) hq hk)
  rw [h1, ← h2]
  unfold slkC slk at h
  omega

/-- Decisions: valid literals of different variables. -/
def okD (D : List Int) : Prop := (∀ z ∈ D, litB z = true) ∧ D.Pairwise apartL
def agD (D : List Int) (u : Nat → Bool) : Bool := D.all (trueP u)
theorem agD_snoc (D : List Int) (z : Int) (u : Nat → Bool) : agD (D ++ [z]) u = (agD D u && trueP u z) := by simp [agD]
theorem trueP_neg {z : Int} (hz : litB z = true) (u : Nat → Bool) : trueP u (-z) = !trueP u z := by
  obtain ⟨h0, _, _⟩ := litB_iff.1 hz
  unfold trueP
  by_cases hp : 0 < z
  · rw [if_pos hp, if_neg (by omega), Int.neg_neg]
  · rw [if_neg hp, if_pos (by omega), Bool.not_not]
theorem rng_z0 : rng z0 := fun i _ => by unfold z0; omega
theorem asgL_offs {x : Int} (hx : litB x = true) : ∀ (D : List Int) (v : Nat → Int), (∀ y ∈ D, litB y = true ∧ apartL y x) → stV (asgL v D) x = stV v x := by
  intro D
  induction D with
  | nil => intro v _; rfl
  | cons y D ih =>
    intro v h
    obtain ⟨h1, h2, h3⟩ := h y (by simp)
    show stV (asgL (asg v y) D) x = _
    rw [ih _ fun a ha => h a (by simp [ha])]
    exact stV_off h1 hx (fun e => h2 e.symm) (fun e => h3 (by omega))
theorem asgL_in : ∀ (D : List Int) (v : Nat → Int), okD D → ∀ z ∈ D, stV (asgL v D) z = 1 := by
  intro D
  induction D with
  | nil => intro v _ z hz; cases hz
  | cons y D ih =>
    intro v h z hz
    obtain ⟨h1, h2⟩ := h
    obtain ⟨h3, h4⟩ := List.pairwise_cons.1 h2
    show stV (asgL (asg v y) D) z = 1
    by_cases hD : z ∈ D
    · exact ih _ ⟨fun a ha => h1 a (by simp [ha]), h4⟩ z hD
    · have e : z = y := by
        rcases List.mem_cons.1 hz with e | e
        · exact e
        · exact absurd e hD
      subst e
      rw [asgL_offs (h1 z hz) D _ fun a ha => ⟨h1 a (by simp [ha]), fun e => (h3 a ha).1 e.symm, fun e => (h3 a ha).2 (by omega)⟩]
      exact stV_self (h1 z hz)
theorem ag_ext0 {D : List Int} (hD : okD D) {u : Nat → Bool} (h : agD D u = true) : extI (asgL z0 D) (sg u) :=
  ext_toL D z0 (fun i _ h0 => absurd rfl h0) fun z hz => ⟨hD.1 z hz, by
    have h1 : trueP u z = true := by unfold agD at h; exact (List.all_eq_true.1 h) z hz
    rw [stV_sg, h1]
    rfl⟩
theorem ext_ag0 {D : List Int} (hD : okD D) {V : Nat → Int} {u : Nat → Bool} (hs : signs V u) (h : extI (asgL z0 D) V) : agD D u = true := by
  unfold agD
  rw [List.all_eq_true]
  intro z hz
  have h1 := asgL_in D z0 hD z hz
  have h2 := stV_ext h (hD.1 z hz) (by omega)
  rw [← nf_signs hs (hD.1 z hz)]
  unfold nfP
  exact decide_eq_true (by omega)

/-- How many of the first k variables have values. -/
def nzC (v : Nat → Int) : Nat → Nat
  | 0 => 0
  | k + 1 => nzC v k + (if v k = 0 then 0 else 1)
theorem nzC_le (v : Nat → Int) (k : Nat) : nzC v k ≤ k := by
  induction k with
  | zero => exact Nat.le_refl _
  | succ k ih => unfold nzC; split <;> omega
theorem nzC_one {v w : Nat → Int} {i : Nat} (h0 : v i = 0) (h1 : w i ≠ 0) (h : ∀ j, j ≠ i → w j = v j) : ∀ k, nzC w k = nzC v k + (if i < k then 1 else 0) := by
  intro k
  induction k with
  | zero => rfl
  | succ k ih =>
    unfold nzC
    rw [ih]
    by_cases e : k = i
    · subst e
      rw [if_neg (show ¬ k < k by omega), if_neg h1, if_pos h0, if_pos (show k < k + 1 by omega)]
    · rw [h k e]
      by_cases e2 : i < k
      · rw [if_pos e2, if_pos (show i < k + 1 by omega)]; omega
      · rw [if_neg e2, if_neg (show ¬ i < k + 1 by omega)]; omega
theorem nzC_asg {v : Nat → Int} {z : Int} (hz : litB z = true) (h0 : stV v z = 0) : nzC (asg v z) 12 = nzC v 12 + 1 := by
  obtain ⟨a, b, c⟩ := litB_iff.1 hz
  unfold stV at h0
  by_cases hp : 0 < z
  · rw [if_pos hp] at h0
    rw [nzC_one (v := v) (w := asg v z) (i := (z - 1).toNat) h0 (by unfold asg; rw [if_pos hp, if_pos rfl]; omega) (fun j hj => by unfold asg; rw [if_pos hp, if_neg hj]), if_pos (by omega)]
  · rw [if_neg hp] at h0
    rw [nzC_one (v := v) (w := asg v z) (i := (-z - 1).toNat) (by omega) (by unfold asg; rw [if_neg hp, if_pos rfl]; omega) (fun j hj => by unfold asg; rw [if_neg hp, if_neg hj]), if_pos (by omega)]
theorem nzC_asgL : ∀ (D : List Int) (v : Nat → Int), okD D → (∀ z ∈ D, stV v z = 0) → nzC (asgL v D) 12 = nzC v 12 + D.length := by
  intro D
  induction D with
  | nil => intro v _ _; rfl
  | cons y D ih =>
    intro v h h0
    obtain ⟨h1, h2⟩ := h
    obtain ⟨h3, h4⟩ := List.pairwise_cons.1 h2
    show nzC (asgL (asg v y) D) 12 = _
    rw [ih (asg v y) ⟨fun a ha => h1 a (by simp [ha]), h4⟩ fun z hz => ?_, nzC_asg (h1 y (by simp)) (h0 y (by simp))]
    · simp only [List.length_cons]; omega
    · rw [stV_off (h1 y (by simp)) (h1 z (by simp [hz])) (fun e => (h3 z hz).1 e.symm) (fun e => (h3 z hz).2 (by omega))]
      exact h0 z (by simp [hz])
theorem okD_len {D : List Int} (h : okD D) : D.length ≤ 12 := by
  have h1 := nzC_asgL D z0 h fun z _ => by unfold stV z0; split <;> rfl
  have h2 := nzC_le (asgL z0 D) 12
  omega
theorem okD_nil : okD [] := ⟨fun z hz => (by cases hz), List.Pairwise.nil⟩
/-- A variable that has no value behind propagation is none of the decisions'. -/
theorem okD_more {D : List Int} (h : okD D) {V : Nat → Int} (he : extI (asgL z0 D) V) {z : Int} (hz : litB z = true) (h0 : stV V z = 0) : okD (D ++ [z]) := by
  refine ⟨fun y hy => ?_, ?_⟩
  · rcases List.mem_append.1 hy with hy | hy
    · exact h.1 y hy
    · rw [List.mem_singleton.1 hy]; exact hz
  · rw [List.pairwise_append]
    refine ⟨h.2, List.pairwise_singleton _ _, fun y hy x hx => ?_⟩
    rw [List.mem_singleton.1 hx]
    have h1 := asgL_in D z0 h y hy
    have h2 := stV_ext he (h.1 y hy) (by omega)
    rw [h1] at h2
    refine ⟨fun e => ?_, fun e => ?_⟩
    · rw [e, h0] at h2; omega
    · rw [e, stV_neg hz, h0] at h2; omega
theorem okD_flip {D : List Int} {z : Int} (h : okD (D ++ [z])) : okD (D ++ [-z]) := by
  have hz : litB z = true := h.1 z (by simp)
  obtain ⟨h1, h2, h3⟩ := List.pairwise_append.1 h.2
  refine ⟨fun y hy => ?_, ?_⟩
  · rcases List.mem_append.1 hy with hy | hy
    · exact h.1 y (by simp [hy])
    · rw [List.mem_singleton.1 hy]; exact litB_ng hz
  · rw [List.pairwise_append]
    refine ⟨h1, List.pairwise_singleton _ _, fun y hy x hx => ?_⟩
    rw [List.mem_singleton.1 hx]
    obtain ⟨a, b⟩ := h3 y hy z (by simp)
    exact ⟨b, by rw [Int.neg_neg]; exact a⟩
theorem okD_pre {D : List Int} {z : Int} (h : okD (D ++ [z])) : okD D :=
  ⟨fun y hy => h.1 y (by simp [hy]), (List.pairwise_append.1 h.2).1⟩

/-- The values whose number is k: the first variable weighs most. -/
def valN (k i : Nat) : Bool := k / 2 ^ (11 - i) % 2 == 1
def numU (u : Nat → Bool) : Nat → Nat
  | 0 => 0
  | j + 1 => 2 * numU u j + (if u j then 1 else 0)
theorem numU_lt (u : Nat → Bool) (j : Nat) : numU u j < 2 ^ j := by
  induction j with
  | zero => exact Nat.lt_succ_self 0
  | succ j ih =>
    unfold numU
    rw [Nat.pow_succ]
    split <;> omega
theorem numU_div (u : Nat → Bool) (j t : Nat) : numU u (j + t) / 2 ^ t = numU u j := by
  induction t with
  | zero => simp
  | succ t ih =>
    have e : numU u (j + (t + 1)) / 2 = numU u (j + t) := by
      show (2 * numU u (j + t) + _) / 2 = _
      split <;> omega
    rw [Nat.pow_succ, Nat.mul_comm, ← Nat.div_div_eq_div_mul, e, ih]
theorem valN_num (u : Nat → Bool) {i : Nat} (hi : i < 12) : valN (numU u 12) i = u i := by
  unfold valN
  have h := numU_div u (i + 1) (11 - i)
  rw [show i + 1 + (11 - i) = 12 by omega] at h
  rw [h]
  show ((2 * numU u i + _) % 2 == 1) = _
  cases u i with
  | true => rw [if_pos rfl, beq_iff_eq.2 (show (2 * numU u i + 1) % 2 = 1 by omega)]
  | false => rw [if_neg Bool.false_ne_true, beq_eq_false_iff_ne]; omega
theorem num_valN {k : Nat} (hk : k < 4096) : ∀ j, j ≤ 12 → numU (valN k) j = k / 2 ^ (12 - j) := by
  intro j
  induction j with
  | zero =>
    intro _
    show 0 = k / 4096
    omega
  | succ j ih =>
    intro hj
    have h1 := ih (by omega)
    unfold numU
    rw [h1]
    have e : 2 ^ (12 - j) = 2 ^ (11 - j) * 2 := by rw [← Nat.pow_succ]; congr 1; omega
    rw [e, ← Nat.div_div_eq_div_mul, show 12 - (j + 1) = 11 - j by omega]
    unfold valN
    generalize k / 2 ^ (11 - j) = q
    by_cases h : q % 2 = 1
    · rw [if_pos (by rw [h]; rfl)]; omega
    · rw [if_neg (by simpa using h)]; omega
theorem numU_congr {u u' : Nat → Bool} : ∀ j, (∀ i, i < j → u i = u' i) → numU u j = numU u' j := by
  intro j
  induction j with
  | zero => intro _; rfl
  | succ j ih =>
    intro h
    unfold numU
    rw [ih fun i hi => h i (by omega), h j (by omega)]
theorem valN_inj {k k' : Nat} (hk : k < 4096) (hk' : k' < 4096) (h : ∀ i, i < 12 → valN k i = valN k' i) : k = k' := by
  have h1 := num_valN hk 12 (Nat.le_refl _)
  have h2 := num_valN hk' 12 (Nat.le_refl _)
  rw [numU_congr 12 h, h2] at h1
  simpa using h1.symm
end Go.Proofs.Ytaenbajghblgiaa
