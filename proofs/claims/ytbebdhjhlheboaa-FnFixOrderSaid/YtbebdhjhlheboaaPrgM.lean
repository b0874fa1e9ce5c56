/- Propagation as a relation between partial assignments, and its arithmetic (no claim of its own). Conditions: as each theorem states. -/
import Derived.Test.YtbebdhjhlheboaaImpA
import Derived.Test.YtbebdhjhlheboaaProA
namespace Go.Proofs.Ytbebdhjhlheboaa
open Go.ChangeShapes Go.WideShapes Go.ChangeAt Go.RowKit

/-- The values once a literal has been made true. -/
def asg (v : Nat → Int) (z : Int) (i : Nat) : Int := if 0 < z then (if i = (z - 1).toNat then 1 else v i) else (if i = (-z - 1).toNat then -1 else v i)
def asgL (v : Nat → Int) : List Int → (Nat → Int)
  | [] => v
  | z :: zs => asgL (asg v z) zs
theorem asgL_snoc (v : Nat → Int) (xs : List Int) (z : Int) : asgL v (xs ++ [z]) = asg (asgL v xs) z := by
  induction xs generalizing v with
  | nil => rfl
  | cons x xs ih => exact ih (asg v x)
def slkC (q : Con) (v : Nat → Int) : Int := slk q.n q.c q.l q.bd v
def impC (q : Con) (v : Nat → Int) : List Int := imL q.c q.l v (slkC q v) q.n
def okC (q : Con) : Prop := validB q.n q.c q.l q.bd = true
def rng (v : Nat → Int) : Prop := ∀ i, i < 12 → -1 ≤ v i ∧ v i ≤ 1
theorem asg_rng {v : Nat → Int} (h : rng v) (z : Int) : rng (asg v z) := fun i hi => by
  have := h i hi
  unfold asg
  split <;> split <;> omega
theorem asgL_rng {v : Nat → Int} (h : rng v) (zs : List Int) : rng (asgL v zs) := by
  induction zs generalizing v with
  | nil => exact h
  | cons z zs ih => exact ih (asg_rng h z)

theorem stV_self {v : Nat → Int} {z : Int} (hz : litB z = true) : stV (asg v z) z = 1 := by
  obtain ⟨h0, _, _⟩ := litB_iff.1 hz
  unfold stV asg
  by_cases h : 0 < z
  · rw [if_pos h, if_pos h, if_pos rfl]
  · rw [if_neg h, if_neg h, if_pos rfl]
    rfl
theorem stV_neg {v : Nat → Int} {z : Int} (hz : litB z = true) : stV v (-z) = -stV v z := by
  obtain ⟨h0, _, _⟩ := litB_iff.1 hz
  unfold stV
  by_cases h : 0 < z
  · rw [if_pos h, if_neg (by omega), Int.neg_neg]
  · rw [if_neg h, if_pos (by omega), Int.neg_neg]
theorem litB_ng {z : Int} (hz : litB z = true) : litB (-z) = true := by
  obtain ⟨h0, h1, h2⟩ := litB_iff.1 hz
  exact litB_iff.2 ⟨by omega, by omega, by omega⟩
theorem stV_off {v : Nat → Int} {z y : Int} (hz : litB z = true) (hy : litB y = true) (h1 : y ≠ z) (h2 : y ≠ -z) : stV (asg v z) y = stV v y := by
  obtain ⟨z0, z1, z2⟩ := litB_iff.1 hz
  obtain ⟨y0, y1, y2⟩ := litB_iff.1 hy
  unfold stV asg
  by_cases hp : 0 < z
  · by_cases hq : 0 < y
    · rw [if_pos hq, if_pos hq, if_pos hp, if_neg (by omega)]
    · rw [if_neg hq, if_neg hq, if_pos hp, if_neg (by omega)]
  · by_cases hq : 0 < y
    · rw [if_pos hq, if_pos hq, if_neg hp, if_neg (by omega)]
    · rw [if_neg hq, if_neg hq, if_neg hp, if_neg (by omega)]

/-- The coefficients of a literal among the first k terms. -/
def cof (c l : Nat → Int) (z : Int) : Nat → Int
  | 0 => 0
  | k + 1 => cof c l z k + (if l k = z then c k else 0)
theorem cof_none {c l : Nat → Int} {z : Int} {n : Nat} (h : ∀ k, k < n → l k ≠ z) : cof c l z n = 0 := by
  induction n with
  | zero => rfl
  | succ n ih =>
    unfold cof
    rw [ih fun k hk => h k (by omega), if_neg (h n (by omega))]
    rfl
theorem cof_bd {c l : Nat → Int} {z : Int} {n : Nat} (h : ∀ k, k < n → 1 ≤ c k ∧ c k ≤ 1000) : 0 ≤ cof c l z n ∧ cof c l z n ≤ 1000 * (n : Int) := by
  induction n with
  | zero => exact ⟨Int.le_refl _, Int.le_refl _⟩
  | succ n ih =>
    have h1 := ih fun k hk => h k (by omega)
    have h2 := h n (by omega)
    unfold cof
    split <;> omega
theorem sB_asg {c l v : Nat → Int} {z : Int} (hz : litB z = true) (hv : stV v z = 0) : ∀ n, (∀ k, k < n → litB (l k) = true) → sB c l (nfP (asg v z)) n = sB c l (nfP v) n - cof c l (-z) n := by
  intro n
  obtain ⟨z0, _, _⟩ := litB_iff.1 hz
  induction n with
  | zero => intro _; rfl
  | succ n ih =>
    intro hl
    have h1 := ih fun k hk => hl k (by omega)
    have hn := hl n (by omega)
    have hc : cof c l (-z) (n + 1) = cof c l (-z) n + (if l n = -z then c n else 0) := rfl
    rw [hc]
    by_cases e1 : l n = -z
    · have p1 : nfP v (l n) = true := by unfold nfP; rw [e1, stV_neg hz, hv]; rfl
      have p2 : nfP (asg v z) (l n) = false := by unfold nfP; rw [e1, stV_neg hz, stV_self hz]; rfl
      rw [sB_yes p1, sB_no p2, if_pos e1]
      omega
    · rw [if_neg e1]
      by_cases e2 : l n = z
      · have p1 : nfP v (l n) = true := by unfold nfP; rw [e2, hv]; rfl
        have p2 : nfP (asg v z) (l n) = true := by unfold nfP; rw [e2, stV_self hz]; rfl
        rw [sB_yes p1, sB_yes p2]
        omega
      · have p : nfP (asg v z) (l n) = nfP v (l n) := by unfold nfP; rw [stV_off hz hn e2 e1]
        cases hp : nfP v (l n) with
        | true => rw [sB_yes (p.trans hp), sB_yes hp]; omega
        | false => rw [sB_no (p.trans hp), sB_no hp]; omega
theorem slk_asg {q : Con} (hq : okC q) {v : Nat → Int} {z : Int} (hz : litB z = true) (hv : stV v z = 0) : slkC q (asg v z) = slkC q v - cof q.c q.l (-z) q.n := by
  unfold slkC slk
  rw [sB_asg (c := q.c) (l := q.l) hz hv q.n fun k hk => litAt (l := q.l) hq hk]
  omega

theorem imL_mem {c l v : Nat → Int} {s : Int} {n : Nat} {y : Int} : y ∈ imL c l v s n ↔ ∃ j, j < n ∧ l j = y ∧ stV v y = 0 ∧ s < c j := by
  induction n with
  | zero => exact ⟨fun h => by simp [imL] at h, fun ⟨j, hj, _⟩ => by omega⟩
  | succ n ih =>
    by_cases h : stV v (l n) = 0 ∧ s < c n
    · rw [imL_yes h.1 h.2, List.mem_append, ih, List.mem_singleton]
      constructor
      · rintro (⟨j, hj, hr⟩ | rfl)
        · exact ⟨j, by omega, hr⟩
        · exact ⟨n, by omega, rfl, h.1, h.2⟩
      · rintro ⟨j, hj, h1, h2, h3⟩
        by_cases e : j = n
        · subst e; exact .inr h1.symm
        · exact .inl ⟨j, by omega, h1, h2, h3⟩
    · rw [imL_no h, ih]
      constructor
      · rintro ⟨j, hj, hr⟩
        exact ⟨j, by omega, hr⟩
      · rintro ⟨j, hj, h1, h2, h3⟩
        by_cases e : j = n
        · subst e; subst h1; exact absurd ⟨h2, h3⟩ h
        · exact ⟨j, by omega, h1, h2, h3⟩
/-- Variables apart. -/
def apartL (a b : Int) : Prop := a ≠ b ∧ a ≠ -b
theorem vt_apart {n : Nat} {c l : Nat → Int} {bd : Int} (h : validB n c l bd = true) {i j : Nat} (hi : i < n) (hj : j < n) (hij : i ≠ j) : apartL (l i) (l j) := by
  have hvt : vtB c l n = true := by
    unfold validB at h
    rw [Bool.and_eq_true] at h
    exact h.1
  have key : ∀ a b, a < b → b < n → ab (l a) < ab (l b) := by
    intro a b hab
    induction b with
    | zero => omega
    | succ b ih =>
      intro hb
      have h1 : ab (l b) < ab (l (b + 1)) := (okAt_iff.1 (vtB_at hvt hb)).2.2.2
      by_cases e : a = b
      · subst e; exact h1
      · exact Int.lt_trans (ih (by omega) (by omega)) h1
  have hne : ab (l i) ≠ ab (l j) := by
    rcases Nat.lt_or_gt_of_ne hij with h | h
    · have := key i j h hj; omega
    · have := key j i h hi; omega
  constructor
  · intro e; exact hne (by rw [e])
  · intro e
    apply hne
    rw [e]
    unfold ab
    split <;> split <;> omega
theorem imL_apart {n : Nat} {c l v : Nat → Int} {bd s : Int} (h : validB n c l bd = true) : ∀ k, k ≤ n → (imL c l v s k).Pairwise (fun a b => apartL b a) := by
  intro k
  induction k with
  | zero => intro _; exact List.Pairwise.nil
  | succ k ih =>
    intro hk
    by_cases hc : stV v (l k) = 0 ∧ s < c k
    · rw [imL_yes hc.1 hc.2, List.pairwise_append]
      refine ⟨ih (by omega), List.pairwise_singleton _ _, fun a ha b hb => ?_⟩
      rw [List.mem_singleton] at hb
      subst hb
      obtain ⟨j, hj, rfl, _⟩ := imL_mem.1 ha
      exact vt_apart h (by omega) (by omega) (by omega)
    · rw [imL_no hc]
      exact ih (by omega)
/-- A list of literals that may be made true one after another: without values, of different variables. -/
def frL (v : Nat → Int) (L : List Int) : Prop := (∀ y ∈ L, litB y = true ∧ stV v y = 0) ∧ L.Pairwise (fun a b => apartL b a)
theorem frL_head {v : Nat → Int} {z : Int} {zs : List Int} (h : frL v (z :: zs)) : litB z = true ∧ stV v z = 0 ∧ frL (asg v z) zs := by
  obtain ⟨h1, h2⟩ := h
  obtain ⟨a, b⟩ := h1 z (List.mem_cons_self)
  rw [List.pairwise_cons] at h2
  refine ⟨a, b, fun y hy => ?_, h2.2⟩
  obtain ⟨c, d⟩ := h1 y (List.mem_cons_of_mem _ hy)
  have := h2.1 y hy
  exact ⟨c, by rw [stV_off a c this.1 this.2]; exact d⟩
theorem imp_fr {q : Con} (hq : okC q) (v : Nat → Int) : frL v (impC q v) :=
  ⟨fun y hy => by
    obtain ⟨j, hj, rfl, h2, _⟩ := imL_mem.1 hy
    exact ⟨litAt hq hj, h2⟩, imL_apart hq _ (Nat.le_refl _)⟩
/-- How many variables have no value. -/
def una (v : Nat → Int) : Nat → Nat
  | 0 => 0
  | k + 1 => una v k + (if v k = 0 then 1 else 0)
theorem una_asg {v : Nat → Int} {z : Int} (hz : litB z = true) (hv : stV v z = 0) : ∀ k, k ≤ 12 → una (asg v z) k + (if (if 0 < z then z else -z) ≤ (k : Int) then 1 else 0) = una v k := by
  obtain ⟨h0, h1, h2⟩ := litB_iff.1 hz
  intro k
  induction k with
  | zero =>
    intro _
    rw [if_neg (by split <;> omega)]
    rfl
  | succ k ih =>
    intro hk
    have hi := ih (by omega)
    show una (asg v z) k + (if asg v z k = 0 then 1 else 0) + _ = una v k + (if v k = 0 then 1 else 0)
    unfold stV at hv
    by_cases hp : 0 < z
    · rw [if_pos hp] at hv hi ⊢
      by_cases e : k = (z - 1).toNat
      · have ea : asg v z k = 1 := by unfold asg; rw [if_pos hp, if_pos e]
        have ev : v k = 0 := by rw [e]; exact hv
        rw [ea, ev]
        rw [if_neg (by omega)] at hi
        rw [if_neg (by omega), if_pos (by omega), if_pos rfl]
        omega
      · have ea : asg v z k = v k := by unfold asg; rw [if_pos hp, if_neg e]
        rw [ea]
        by_cases hle : z ≤ (k : Int)
        · rw [if_pos hle] at hi
          rw [if_pos (show z ≤ ((k + 1 : Nat) : Int) by omega)]
          omega
        · rw [if_neg hle] at hi
          rw [if_neg (show ¬ z ≤ ((k + 1 : Nat) : Int) by omega)]
          omega
    · rw [if_neg hp] at hv hi ⊢
      by_cases e : k = (-z - 1).toNat
      · have ea : asg v z k = -1 := by unfold asg; rw [if_neg hp, if_pos e]
        have ev : v k = 0 := by rw [e]; omega
        rw [ea, ev]
        rw [if_neg (by omega)] at hi
        rw [if_neg (by omega), if_pos (by omega), if_pos rfl]
        omega
      · have ea : asg v z k = v k := by unfold asg; rw [if_neg hp, if_neg e]
        rw [ea]
        by_cases hle : -z ≤ (k : Int)
        · rw [if_pos hle] at hi
          rw [if_pos (show -z ≤ ((k + 1 : Nat) : Int) by omega)]
          omega
        · rw [if_neg hle] at hi
          rw [if_neg (show ¬ -z ≤ ((k + 1 : Nat) : Int) by omega)]
          omega
theorem una_one {v : Nat → Int} {z : Int} (hz : litB z = true) (hv : stV v z = 0) : una (asg v z) 12 + 1 = una v 12 := by
  obtain ⟨h0, h1, h2⟩ := litB_iff.1 hz
  have := una_asg hz hv 12 (Nat.le_refl _)
  rwa [if_pos (by split <;> omega)] at this
theorem una_list {v : Nat → Int} {L : List Int} (h : frL v L) : una (asgL v L) 12 + L.length = una v 12 := by
  induction L generalizing v with
  | nil => rfl
  | cons z zs ih =>
    obtain ⟨h1, h2, h3⟩ := frL_head h
    have := ih h3
    have := una_one h1 h2
    show una (asgL (asg v z) zs) 12 + (zs.length + 1) = _
    omega
theorem una_le (v : Nat → Int) (k : Nat) : una v k ≤ k := by
  induction k with
  | zero => exact Nat.le_refl _
  | succ k ih => unfold una; split <;> omega

/-- Making the literals that a constraint implies true leaves its slack as it is, and nothing more to imply. -/
theorem slk_list {q : Con} (hq : okC q) {v : Nat → Int} {L : List Int} (h : frL v L) (hL : ∀ z ∈ L, ∀ k, k < q.n → q.l k ≠ -z) : slkC q (asgL v L) = slkC q v := by
  induction L generalizing v with
  | nil => rfl
  | cons z zs ih =>
    obtain ⟨h1, h2, h3⟩ := frL_head h
    show slkC q (asgL (asg v z) zs) = _
    rw [ih h3 fun y hy => hL y (List.mem_cons_of_mem _ hy), slk_asg hq h1 h2, cof_none (hL z List.mem_cons_self)]
    omega
theorem stV_keep {v : Nat → Int} {z y : Int} (hz : litB z = true) (hv : stV v z = 0) (hy : litB y = true) (h : stV (asg v z) y = 0) : stV v y = 0 ∧ y ≠ z := by
  by_cases e1 : y = z
  · subst e1; rw [stV_self hz] at h; omega
  · by_cases e2 : y = -z
    · rw [e2, stV_neg hz, stV_self hz] at h; omega
    · rw [stV_off hz hy e1 e2] at h
      exact ⟨h, e1⟩
theorem stV_keepL {v : Nat → Int} {L : List Int} (hf : frL v L) {y : Int} (hy : litB y = true) (h : stV (asgL v L) y = 0) : stV v y = 0 ∧ y ∉ L := by
  induction L generalizing v with
  | nil => exact ⟨h, by simp⟩
  | cons z zs ih =>
    obtain ⟨h1, h2, h3⟩ := frL_head hf
    obtain ⟨a, b⟩ := ih h3 h
    obtain ⟨c, d⟩ := stV_keep h1 h2 hy a
    exact ⟨c, by rw [List.mem_cons]; rintro (e | e); exact d e; exact b e⟩
def fixC (q : Con) (v : Nat → Int) : Prop := ¬ slkC q v < 0 ∧ impC q v = []
theorem fix_step {q : Con} (hq : okC q) {v : Nat → Int} (h : ¬ slkC q v < 0) : fixC q (asgL v (impC q v)) := by
  have hf := imp_fr hq v
  have hs : slkC q (asgL v (impC q v)) = slkC q v := slk_list hq hf fun z hz k hk e => by
    obtain ⟨j, hj, rfl, _⟩ := imL_mem.1 hz
    obtain ⟨l0, _, _⟩ := litB_iff.1 (litAt hq hj)
    by_cases ejk : k = j
    · subst ejk; omega
    · exact (vt_apart hq hk hj ejk).2 e
  refine ⟨by rw [hs]; exact h, ?_⟩
  rw [List.eq_nil_iff_forall_not_mem]
  intro y hy
  obtain ⟨j, hj, rfl, h2, h3⟩ := imL_mem.1 hy
  obtain ⟨a, b⟩ := stV_keepL hf (litAt hq hj) h2
  exact b (imL_mem.2 ⟨j, hj, rfl, a, by rw [← hs]; exact h3⟩)

/-! What propagation comes to. -/
def nxt (m i : Nat) : Nat := if i + 1 = m then 0 else i + 1
inductive Runs (p : Nat → Con) (m : Nat) : Nat → (Nat → Int) → (Nat → Int) → Int → Prop
  | vio (i : Nat) (v : Nat → Int) (hi : i < m) (h : slkC (p i) v < 0) : Runs p m i v v (i : Int)
  | step (i : Nat) (v w : Nat → Int) (r : Int) (hi : i < m) (h : ¬ slkC (p i) v < 0) (hn : Runs p m (nxt m i) (asgL v (impC (p i) v)) w r) : Runs p m i v w r
  | fin (i : Nat) (v : Nat → Int) (h : ∀ j, j < m → fixC (p j) v) : Runs p m i v v (-1)
theorem Runs.fixed {p : Nat → Con} {m i : Nat} {v w : Nat → Int} {r : Int} (h : Runs p m i v w r) : (∀ j, j < m → fixC (p j) v) → w = v ∧ r = -1 := by
  induction h with
  | vio i v hi h => intro hf; exact absurd h (hf i hi).1
  | step i v w r hi h hn ih =>
    intro hf
    have e : asgL v (impC (p i) v) = v := by rw [(hf i hi).2]; rfl
    rw [e] at ih
    exact ih hf
  | fin i v h => intro _; exact ⟨rfl, rfl⟩
theorem Runs.det {p : Nat → Con} {m i : Nat} {v w : Nat → Int} {r : Int} (h : Runs p m i v w r) : ∀ w' r', Runs p m i v w' r' → w = w' ∧ r = r' := by
  induction h with
  | vio i v hi h =>
    intro w' r' h2
    cases h2 with
    | vio => exact ⟨rfl, rfl⟩
    | step _ _ _ _ _ h' => exact absurd h h'
    | fin _ _ hf => exact absurd h (hf i hi).1
  | step i v w r hi h hn ih =>
    intro w' r' h2
    cases h2 with
    | vio _ _ _ h' => exact absurd h' h
    | step _ _ _ _ _ _ hn' => exact ih _ _ hn'
    | fin _ _ hf => exact Runs.fixed (.step i v w r hi h hn) hf
  | fin i v hf =>
    intro w' r' h2
    obtain ⟨a, b⟩ := Runs.fixed h2 hf
    exact ⟨a.symm, b.symm⟩
end Go.Proofs.Ytbebdhjhlheboaa
