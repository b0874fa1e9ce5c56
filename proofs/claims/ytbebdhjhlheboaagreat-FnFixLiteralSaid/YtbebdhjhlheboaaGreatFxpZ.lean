/- Parts of a problem: which indices make one, and what it says (no claim of its own). Conditions: as each theorem states. · Problems with the variables of a partial assignment replaced by their values: plain facts (no claim of its own). Conditions: as each theorem states. · The append of one term to the first field of a struct that a loop builds (no claim of its own). Conditions: as each theorem states. · The append of one term inside a region that draws its order, what lies below it kept (no claim of its own). Conditions: as each theorem states. · Contracts of the reference's fixing of a constraint (no claim of its own). Conditions: as each theorem states. · All blocks but those of a set lie as they did (no claim of its own). Conditions: as each theorem states. · The marking of a problem that a call has made (no claim of its own). Conditions: as each theorem states. · Constraints that a call has made: grown, marked, asked (no claim of its own). Conditions: as each theorem states. · Constraints that a call lays one by one into a slice that it has made (no claim of its own). Conditions: as each theorem states. · Contracts of the program's fixing of a constraint (no claim of its own). Conditions: as each theorem states. · Contracts of the reference's and the program's FixPartial (no claim of its own). Conditions: as each theorem states. · Contracts of the program's FixPartial (no claim of its own). Conditions: as each theorem states. · Values that agree with a partial assignment satisfy a problem exactly if they satisfy it fixed (no claim of its own). Conditions: as each theorem states. -/
import Derived.Test.YtbebdhjhlheboaaGreatProB
import Derived.Test.YtbebdhjhlheboaaGreatIntA
import Derived.Test.YtbebdhjhlheboaaGreatParA
import Derived.Test.YtbebdhjhlheboaaGreatOutA
import Derived.Deep.RegionHeldLaw
import Derived.Test.YtbebdhjhlheboaaGreatSlkA
import Derived.StillTailTactics
import Derived.Test.YtbebdhjhlheboaaGreatMrkR
import Derived.Test.YtbebdhjhlheboaaGreatProA
import Derived.Deep.AppendLies
import Derived.Test.YtbebdhjhlheboaaGreatSlkB
import Derived.Laws.Cover3
import Derived.Deep.MidRow
import Derived.Test.YtbebdhjhlheboaaGreatSatP
namespace Go.Proofs.YtbebdhjhlheboaaGreat
open Go.ChangeShapes Go.WideShapes Go.ChangeAt Go.RowKit

/-- The index ahead of index i, or -1. -/
def lastK (c : Nat → Int) : Nat → Int
  | 0 => -1
  | i + 1 => c i
def keepAt (c : Nat → Int) (m : Nat) (i : Nat) : Bool := decide (lastK c i < c i) && decide (c i < (m : Int))
/-- The first k numbers are indices of m constraints, in ascending order. -/
def keepB (c : Nat → Int) (m : Nat) : Nat → Bool
  | 0 => true
  | k + 1 => keepB c m k && keepAt c m k
theorem keepAt_iff {c : Nat → Int} {m i : Nat} : keepAt c m i = true ↔ lastK c i < c i ∧ c i < (m : Int) := by simp [keepAt]
theorem keepB_at {c : Nat → Int} {m n k : Nat} (h : keepB c m n = true) (hk : k < n) : keepAt c m k = true := by
  induction n with
  | zero => omega
  | succ n ih =>
    unfold keepB at h
    rw [Bool.and_eq_true] at h
    by_cases e : k = n
    · subst e; exact h.2
    · exact ih h.1 (by omega)
theorem keepB_no {c : Nat → Int} {m n k : Nat} (h : ¬ (lastK c k < c k ∧ c k < (m : Int))) (hk : k < n) : keepB c m n = false := by
  cases hv : keepB c m n with
  | false => rfl
  | true => exact absurd (keepAt_iff.1 (keepB_at hv hk)) h
theorem keepB_yes {c : Nat → Int} {m k : Nat} (h : keepB c m k = true) (h1 : lastK c k < c k ∧ c k < (m : Int)) : keepB c m (k + 1) = true := by
  unfold keepB
  rw [h, keepAt_iff.2 h1]
  rfl
theorem keep_ge {c : Nat → Int} {m n k : Nat} (h : keepB c m n = true) (hk : k < n) : (k : Int) ≤ c k ∧ c k < (m : Int) := by
  induction k with
  | zero =>
    have h1 := keepAt_iff.1 (keepB_at h hk)
    have h2 : (-1 : Int) < c 0 := h1.1
    exact ⟨by omega, h1.2⟩
  | succ k ih =>
    have h1 := keepAt_iff.1 (keepB_at h hk)
    have h2 : c k < c (k + 1) := h1.1
    have h3 := ih (by omega)
    exact ⟨by omega, h1.2⟩
theorem last_ge {c : Nat → Int} {m k : Nat} (h : keepB c m k = true) : -1 ≤ lastK c k := by
  cases k with
  | zero => exact Int.le_refl _
  | succ k =>
    have := (keep_ge h (Nat.lt_succ_self k)).1
    show -1 ≤ c k
    omega
theorem keep_le {c : Nat → Int} {m n : Nat} (h : keepB c m n = true) : n ≤ m := by
  rcases Nat.eq_zero_or_pos n with e | e
  · omega
  · have := keep_ge h (show n - 1 < n by omega)
    omega
/-- Constraint i of the part. -/
def subK (p : Nat → Con) (c : Nat → Int) (i : Nat) : Con := p (c i).toNat
def subOk (n : Nat) (p : Nat → Con) (nk : Nat) (c : Nat → Int) : Bool := probB n p && keepB c n nk
def subN (n : Nat) (p : Nat → Con) (nk : Nat) (c : Nat → Int) : Nat := if subOk n p nk c = true then nk else 0
theorem prob_400 {n : Nat} {p : Nat → Con} (h : probB n p = true) : n ≤ 400 := by
  unfold probB at h
  rw [Bool.and_eq_true] at h
  exact of_decide_eq_true h.2
theorem prob_V {n : Nat} {p : Nat → Con} (h : probB n p = true) : allV p n = true := by
  unfold probB at h
  rw [Bool.and_eq_true] at h
  exact h.1
theorem mono_ab {c l : Nat → Int} {n : Nat} (h : vtB c l n = true) {i : Nat} (hi : i < n) : (i : Int) + 1 ≤ ab (l i) := by
  induction i with
  | zero =>
    have h0 := okAt_lit (vtB_at h hi)
    have := ab_pos h0
    omega
  | succ i ih =>
    have h0 := (okAt_iff.1 (vtB_at h hi)).2.2.2
    have h1 : ab (l i) < ab (l (i + 1)) := h0
    have h2 := ih (by omega)
    omega
theorem valid_le12 {n : Nat} {c l : Nat → Int} {bd : Int} (h : validB n c l bd = true) : n ≤ 12 := by
  unfold validB at h
  rw [Bool.and_eq_true] at h
  rcases Nat.eq_zero_or_pos n with h0 | h0
  · omega
  · have h1 := mono_ab h.1 (show n - 1 < n by omega)
    have h2 := ab_pos (okAt_lit (vtB_at h.1 (show n - 1 < n by omega)))
    omega
theorem sub_ok {n : Nat} {p : Nat → Con} {nk : Nat} {c : Nat → Int} (h : subOk n p nk c = true) : probB n p = true ∧ keepB c n nk = true := by
  unfold subOk at h
  rwa [Bool.and_eq_true] at h
theorem subN_le (n : Nat) (p : Nat → Con) (nk : Nat) (c : Nat → Int) : subN n p nk c ≤ 400 := by
  unfold subN
  split
  · rename_i h
    obtain ⟨h1, h2⟩ := sub_ok h
    have := keep_le h2
    have := prob_400 h1
    omega
  · omega
theorem sub_12 {n : Nat} {p : Nat → Con} {nk : Nat} {c : Nat → Int} {i : Nat} (hi : i < subN n p nk c) : (subK p c i).n ≤ 12 := by
  unfold subN at hi
  split at hi
  · rename_i h
    obtain ⟨h1, h2⟩ := sub_ok h
    have h3 := keep_ge h2 hi
    have h4 : validB (p (c i).toNat).n (p (c i).toNat).c (p (c i).toNat).l (p (c i).toNat).bd = true := allV_at (prob_V h1) (show (c i).toNat < n by omega)
    exact valid_le12 h4
  · omega
theorem sub_all (n : Nat) (p : Nat → Con) (nk : Nat) (c : Nat → Int) (i : Nat) (hi : i < subN n p nk c) : (subK p c i).n ≤ 1048576 := Nat.le_trans (sub_12 hi) (by omega)
theorem tot_12 {q : Nat → Con} {k : Nat} (h : ∀ i, i < k → (q i).n ≤ 12) : tot q k ≤ 12 * k := by
  induction k with
  | zero => exact Nat.le_refl _
  | succ k ih =>
    have h1 := ih fun i hi => h i (by omega)
    have h2 := h k (by omega)
    show tot q k + (q k).n ≤ _
    omega
theorem sub_tot (n : Nat) (p : Nat → Con) (nk : Nat) (c : Nat → Int) : subN n p nk c + 2 * tot (subK p c) (subN n p nk c) ≤ 500000 := by
  have h1 := subN_le n p nk c
  have h2 := tot_12 (q := subK p c) (k := subN n p nk c) fun i hi => sub_12 hi
  omega
theorem subN_yes {n : Nat} {p : Nat → Con} {nk : Nat} {c : Nat → Int} (h1 : probB n p = true) (h2 : keepB c n nk = true) : subOk n p nk c = true ∧ subN n p nk c = nk := by
  have h : subOk n p nk c = true := by unfold subOk; rw [h1, h2]; rfl
  exact ⟨h, if_pos h⟩
theorem subN_no {n : Nat} {p : Nat → Con} {nk : Nat} {c : Nat → Int} (h : probB n p = false ∨ keepB c n nk = false) : subOk n p nk c = false ∧ subN n p nk c = 0 := by
  have h : subOk n p nk c = false := by
    unfold subOk
    rcases h with h | h <;> rw [h]
    · rfl
    · rw [Bool.and_false]
  exact ⟨h, if_neg (by rw [h]; exact Bool.false_ne_true)⟩

/-- A slice of constraints as RdP reads it, whose lists of terms have room only where they have a block. -/
def RdPc (w : World) (B : Nat) (A : Option Addr) (n : Nat) (p : Nat → Con) : Prop :=
  0 < n → ∃ b off, A = some ⟨b, off, none⟩ ∧ b < B ∧ ∀ i, i < n → ∃ Ai ci, w.cell? ⟨b, off + i * 2, none⟩ = some (.slice Ai (p i).n ci) ∧ w.cell? ⟨b, off + i * 2 + 1, none⟩ = some (.int .i64 (p i).bd) ∧ Rd w B Ai (p i).n (p i).c (p i).l ∧ (Ai = none → ci = 0)
section
variable {w w' : World} {B B' : Nat} {A : Option Addr} {n : Nat} {p : Nat → Con}
theorem RdPc.rd (h : RdPc w B A n p) : RdP w B A n p := fun hn => by
  obtain ⟨b, off, e, hlt, hc⟩ := h hn
  refine ⟨b, off, e, hlt, fun i hi => ?_⟩
  obtain ⟨Ai, ci, h1, h2, h3, _⟩ := hc i hi
  exact ⟨Ai, ci, h1, h2, h3⟩
theorem RdPc.below (h : RdPc w B A n p) (hb : Below B w w') : RdPc w' B A n p := fun hn => by
  obtain ⟨b, off, e, hlt, hc⟩ := h hn
  refine ⟨b, off, e, hlt, fun i hi => ?_⟩
  obtain ⟨Ai, ci, h1, h2, h3, h4⟩ := hc i hi
  exact ⟨Ai, ci, (hb.cell (p := ⟨b, _, none⟩) hlt).trans h1, (hb.cell (p := ⟨b, _, none⟩) hlt).trans h2, h3.below hb, h4⟩
theorem RdPc.more (h : RdPc w B A n p) (hB : B ≤ B') : RdPc w B' A n p := fun hn => by
  obtain ⟨b, off, e, hlt, hc⟩ := h hn
  refine ⟨b, off, e, by omega, fun i hi => ?_⟩
  obtain ⟨Ai, ci, h1, h2, h3, h4⟩ := hc i hi
  exact ⟨Ai, ci, h1, h2, h3.more hB, h4⟩
theorem RdPc.later (h : RdPc w w.heap.size A n p) (hb : Below w.heap.size w w') : RdPc w' w'.heap.size A n p := (h.below hb).more hb.size
theorem OwnP.rdc {G : Nat} (h : OwnP w G n n p) : RdPc w w.heap.size (some ⟨G, 0, none⟩) n p := fun _ => by
  have hlt := h.lt
  obtain ⟨cs, hh, h1, h2⟩ := h
  refine ⟨G, 0, rfl, hlt, fun i hi => ?_⟩
  obtain ⟨g, hg, a, b, c⟩ := h2 i hi
  rw [Nat.zero_add]
  exact ⟨_, _, (cell_of_row w G _ cs _ _ hh).trans a, (cell_of_row w G _ cs _ _ hh).trans b, c.rdAt, fun e => by cases e⟩
end
end Go.Proofs.YtbebdhjhlheboaaGreat

namespace Go.Proofs.YtbebdhjhlheboaaGreat
open Go.ChangeShapes Go.WideShapes Go.ChangeAt Go.RowKit

/-- The chosen ones among the first k terms. -/
def pkR (c l : Nat → Int) (q : Nat → Bool) : Nat → List (Int × Int)
  | 0 => []
  | k + 1 => if q k = true then pkR c l q k ++ [(c k, l k)] else pkR c l q k
def pkC (R : List (Int × Int)) (i : Nat) : Int := (R.getD i (0, 0)).1
def pkL (R : List (Int × Int)) (i : Nat) : Int := (R.getD i (0, 0)).2
section
variable {c l : Nat → Int} {q : Nat → Bool} {n k : Nat}
theorem pk_yes (h : q k = true) : pkR c l q (k + 1) = pkR c l q k ++ [(c k, l k)] := if_pos h
theorem pk_no (h : q k = false) : pkR c l q (k + 1) = pkR c l q k := if_neg (by rw [h]; decide)
theorem pk_le (k : Nat) : (pkR c l q k).length ≤ k := by
  induction k with
  | zero => exact Nat.le_refl _
  | succ k ih =>
    unfold pkR
    split
    · simp; omega
    · omega
theorem pk_prefix {k n : Nat} (h : k ≤ n) : pkR c l q k <+: pkR c l q n := by
  induction n with
  | zero =>
    obtain rfl : k = 0 := by omega
    exact List.prefix_refl _
  | succ n ih =>
    by_cases e : k = n + 1
    · subst e; exact List.prefix_refl _
    · refine (ih (by omega)).trans ?_
      show pkR c l q n <+: (if q n = true then pkR c l q n ++ [(c n, l n)] else pkR c l q n)
      split
      · exact ⟨[(c n, l n)], rfl⟩
      · exact List.prefix_refl _
theorem pk_at (hk : k < n) (h : q k = true) : pkC (pkR c l q n) (pkR c l q k).length = c k ∧ pkL (pkR c l q n) (pkR c l q k).length = l k := by
  obtain ⟨t, ht⟩ := pk_prefix (c := c) (l := l) (q := q) (show k + 1 ≤ n from hk)
  rw [pk_yes h] at ht
  unfold pkC pkL
  rw [← ht]
  simp [List.getD]
theorem pk_from : ∀ x ∈ pkR c l q n, ∃ j, j < n ∧ q j = true ∧ x = (c j, l j) := by
  induction n with
  | zero => intro x hx; cases hx
  | succ n ih =>
    intro x hx
    unfold pkR at hx
    split at hx
    · rcases List.mem_append.1 hx with h | h
      · obtain ⟨j, hj, e⟩ := ih x h
        exact ⟨j, by omega, e⟩
      · rename_i h1
        exact ⟨n, by omega, h1, by simpa using h⟩
    · obtain ⟨j, hj, e⟩ := ih x hx
      exact ⟨j, by omega, e⟩
theorem pk_append {R : List (Int × Int)} {x : Int × Int} {i : Nat} (hi : i < R.length) : pkC (R ++ [x]) i = pkC R i ∧ pkL (R ++ [x]) i = pkL R i := by
  simp [pkC, pkL, List.getD, List.getElem?_append_left hi]
theorem pk_last (R : List (Int × Int)) (x : Int × Int) : pkC (R ++ [x]) R.length = x.1 ∧ pkL (R ++ [x]) R.length = x.2 := by
  simp [pkC, pkL, List.getD]
theorem vt_congr {c l c' l' : Nat → Int} {n : Nat} (h : ∀ i, i < n → c i = c' i ∧ l i = l' i) : vtB c l n = vtB c' l' n := by
  induction n with
  | zero => rfl
  | succ n ih =>
    unfold vtB
    rw [ih (fun i hi => h i (by omega))]
    congr 1
    have h1 := h n (by omega)
    cases n with
    | zero => simp [okAt, h1]
    | succ m =>
      have h2 := h m (by omega)
      simp [okAt, h1, h2]
theorem vt_rise {c l : Nat → Int} {n : Nat} (h : vtB c l n = true) : ∀ j i, i < j → j < n → ab (l i) < ab (l j) := by
  intro j
  induction j with
  | zero => intro i hi; omega
  | succ j ih =>
    intro i hi hj
    have h1 := vtB_at h hj
    have h2 : ab (l j) < ab (l (j + 1)) := by simp [okAt] at h1; exact h1.2
    by_cases e : i = j
    · subst e; exact h2
    · have := ih i (by omega) (by omega)
      omega
theorem pk_valid (h : vtB c l n = true) : ∀ k, k ≤ n → vtB (pkC (pkR c l q k)) (pkL (pkR c l q k)) (pkR c l q k).length = true := by
  intro k
  induction k with
  | zero => intro _; rfl
  | succ k ih =>
    intro hk
    have h0 := ih (by omega)
    cases e : q k with
    | false => rw [pk_no e]; exact h0
    | true =>
      rw [pk_yes e, List.length_append]
      show vtB _ _ ((pkR c l q k).length + 1) = true
      unfold vtB
      rw [Bool.and_eq_true]
      refine ⟨(vt_congr (fun i hi => pk_append hi)).trans h0, ?_⟩
      obtain ⟨e1, e2⟩ := pk_last (pkR c l q k) (c k, l k)
      have hok := vtB_at h (show k < n by omega)
      have hco := okAt_coef hok
      have hli := okAt_lit hok
      cases hm : (pkR c l q k).length with
      | zero =>
        rw [hm] at e1 e2
        simp only [okAt, e1, e2, hli, Bool.true_and]
        simp
        omega
      | succ m =>
        rw [hm] at e1 e2
        obtain ⟨a1, a2⟩ := pk_append (R := pkR c l q k) (x := (c k, l k)) (i := m) (by omega)
        obtain ⟨j, hj, _, ej⟩ := pk_from ((pkR c l q k).getD m (0, 0)) (by
          rw [List.getD_eq_getElem?_getD, List.getElem?_eq_getElem (by omega)]
          exact List.getElem_mem _)
        have e3 : pkL (pkR c l q k) m = l j := by unfold pkL; rw [ej]
        have := vt_rise h k j hj (by omega)
        simp only [okAt, e1, e2, a2, e3, hli, Bool.true_and, Bool.and_eq_true, decide_eq_true_eq]
        omega
end

theorem sB_suc (c l : Nat → Int) (P : Int → Bool) (k : Nat) : sB c l P (k + 1) = if P (l k) = true then sB c l P k + c k else sB c l P k := rfl
/-- Which terms stay; the bound behind the first k; the bound, at least 0. -/
def fxQ (l : Nat → Int) (v : Nat → Int) (k : Nat) : Bool := decide (stV v (l k) = 0)
def fxS (c l : Nat → Int) (bd : Int) (v : Nat → Int) : Nat → Int
  | 0 => bd
  | k + 1 => if stV v (l k) = 1 then fxS c l bd v k - c k else fxS c l bd v k
def fxP (b : Int) : Int := if b < 0 then 0 else b
/-- The terms of a constraint that stay. -/
def fxR (c l : Nat → Int) (v : Nat → Int) (k : Nat) : List (Int × Int) := pkR c l (fxQ l v) k
section
variable {c l v : Nat → Int} {bd : Int} {k n : Nat}
theorem fxR_yes (h : stV v (l k) = 0) : fxR c l v (k + 1) = fxR c l v k ++ [(c k, l k)] := pk_yes (decide_eq_true h)
theorem fxR_no (h : stV v (l k) ≠ 0) : fxR c l v (k + 1) = fxR c l v k := pk_no (decide_eq_false h)
theorem fxS_yes (h : stV v (l k) = 1) : fxS c l bd v (k + 1) = fxS c l bd v k - c k := if_pos h
theorem fxS_no (h : stV v (l k) ≠ 1) : fxS c l bd v (k + 1) = fxS c l bd v k := if_neg h
theorem fxS_le (hv : ∀ i, i < n → 1 ≤ c i ∧ c i ≤ 1000) : fxS c l bd v n ≤ bd ∧ bd - 1000 * (n : Int) ≤ fxS c l bd v n := by
  induction n with
  | zero => simp [fxS]
  | succ n ih =>
    have h1 := ih (fun i hi => hv i (by omega))
    have h2 := hv n (by omega)
    unfold fxS
    split <;> omega
theorem fxP_step {b x : Int} (hx : 0 ≤ x) : (if fxP b - x < 0 then 0 else fxP b - x) = fxP (b - x) := by
  unfold fxP
  by_cases h1 : b < 0
  · rw [if_pos h1, if_pos (show b - x < 0 by omega)]
    split <;> omega
  · rw [if_neg h1]
theorem fxR_le (k : Nat) : (fxR c l v k).length ≤ k := pk_le k
end
/-- A constraint with its variables' values put in. -/
def fxCon (v : Nat → Int) (x : Con) : Con := ⟨(fxR x.c x.l v x.n).length, fxP (fxS x.c x.l x.bd v x.n), pkC (fxR x.c x.l v x.n), pkL (fxR x.c x.l v x.n)⟩
theorem vb_coef {n : Nat} {c l : Nat → Int} {bd : Int} (h : validB n c l bd = true) : ∀ i, i < n → 1 ≤ c i ∧ c i ≤ 1000 := by
  unfold validB at h
  rw [Bool.and_eq_true] at h
  exact fun i hi => okAt_coef (vtB_at h.1 hi)
theorem vb_bd {n : Nat} {c l : Nat → Int} {bd : Int} (h : validB n c l bd = true) : 0 ≤ bd ∧ bd ≤ 20000 := by
  unfold validB at h
  simp only [Bool.and_eq_true, decide_eq_true_eq] at h
  exact h.2
theorem fxCon_valid {v : Nat → Int} {x : Con} (h : validB x.n x.c x.l x.bd = true) : validB (fxCon v x).n (fxCon v x).c (fxCon v x).l (fxCon v x).bd = true := by
  have h1 := vb_bd h
  have h2 := fxS_le (l := x.l) (v := v) (bd := x.bd) (vb_coef h)
  unfold validB at h ⊢
  rw [Bool.and_eq_true] at h ⊢
  refine ⟨pk_valid h.1 x.n (Nat.le_refl _), ?_⟩
  have : 0 ≤ fxP (fxS x.c x.l x.bd v x.n) ∧ fxP (fxS x.c x.l x.bd v x.n) ≤ 20000 := by unfold fxP; split <;> omega
  rw [Bool.and_eq_true]
  exact ⟨decide_eq_true this.1, decide_eq_true this.2⟩
/-- The fixed problem. -/
def fixK (p : Nat → Con) (v : Nat → Int) (i : Nat) : Con := fxCon v (p i)
def fixOk (n : Nat) (p : Nat → Con) (m : Nat) (v : Nat → Int) : Bool := probB n p && pvB m v
def fixN (n : Nat) (p : Nat → Con) (m : Nat) (v : Nat → Int) : Nat := if fixOk n p m v = true then n else 0
section
variable {n m : Nat} {p : Nat → Con} {v : Nat → Int}
theorem fix_yes (h1 : probB n p = true) (h2 : pvB m v = true) : fixOk n p m v = true ∧ fixN n p m v = n := by
  have h : fixOk n p m v = true := by unfold fixOk; rw [h1, h2]; rfl
  exact ⟨h, if_pos h⟩
theorem fix_no (h : probB n p = false ∨ pvB m v = false) : fixOk n p m v = false ∧ fixN n p m v = 0 := by
  have h : fixOk n p m v = false := by
    unfold fixOk
    rcases h with h | h <;> rw [h]
    · rfl
    · rw [Bool.and_false]
  exact ⟨h, if_neg (by rw [h]; exact Bool.false_ne_true)⟩
theorem fix_ok (h : fixOk n p m v = true) : probB n p = true ∧ pvB m v = true := by
  unfold fixOk at h
  rwa [Bool.and_eq_true] at h
theorem fixN_le (n : Nat) (p : Nat → Con) (m : Nat) (v : Nat → Int) : fixN n p m v ≤ 400 := by
  unfold fixN
  split
  · rename_i h
    exact prob_400 (fix_ok h).1
  · omega
theorem fix_12 {i : Nat} (hi : i < fixN n p m v) : (fixK p v i).n ≤ 12 := by
  unfold fixN at hi
  split at hi
  · rename_i h
    have h4 : validB (p i).n (p i).c (p i).l (p i).bd = true := allV_at (prob_V (fix_ok h).1) hi
    exact valid_le12 (fxCon_valid (v := v) h4)
  · omega
theorem fix_all (n : Nat) (p : Nat → Con) (m : Nat) (v : Nat → Int) (i : Nat) (hi : i < fixN n p m v) : (fixK p v i).n ≤ 1048576 := Nat.le_trans (fix_12 hi) (by omega)
theorem fix_tot (n : Nat) (p : Nat → Con) (m : Nat) (v : Nat → Int) : fixN n p m v + 2 * tot (fixK p v) (fixN n p m v) ≤ 500000 := by
  have h1 := fixN_le n p m v
  have h2 := tot_12 (q := fixK p v) (k := fixN n p m v) fun i hi => fix_12 hi
  omega
end
end Go.Proofs.YtbebdhjhlheboaaGreat

namespace Go.Proofs.YtbebdhjhlheboaaGreat
open Go.ChangeShapes Go.WideShapes Go.ChangeAt Go.RowKit

theorem row_below {w w' : World} {B : Nat} {e : TypeId} {s : Nat} {v : Value} {n : Nat} {xs : List Value} (h : w.ownsRow B e s v n xs) (hb : Below w.heap.size w w') : w'.ownsRow B e s v n xs := by
  refine ⟨h.1, ?_⟩
  rcases h.2 with hh | ⟨g, cap, cur, e1, hg, hh, hr⟩
  · exact .inl hh
  · refine .inr ⟨g, cap, cur, e1, hg, (hb.block g ?_).trans hh, hr⟩
    rcases Nat.lt_or_ge g w.heap.size with hlt | hge
    · exact hlt
    · rw [Array.getElem?_eq_none hge] at hh; cases hh

section
variable {w : World} {O : Nat} {ks : List (Nat × Nat × Value)} {c l : Nat → Int} {k : Nat} {ov : Value} {wr w1 wq : World}
theorem OutAt.below (h : OutAt w O ks c l k ov wr) (hb : Below wr.heap.size wr wq) : OutAt w O ks c l k ov wq :=
  ⟨h.o0.below hb, row_below h.own hb, fun x hx => ⟨(h.keep x hx).1, (h.keep x hx).2.below hb⟩, bl_trans h.bel hb, h.hO⟩
theorem OutAt.at_ (h : OutAt w O ks c l k ov wr) {j o : Nat} {v : Value} (hx : (j, o, v) ∈ ks) : Cel wr j o v := (h.keep _ hx).2

set_option maxRecDepth 100000 in
set_option maxHeartbeats 800000 in
theorem wp_app1 {o : Oper} {a : Act} {K : Act → World → Prop} {Q : Exit → Act → World → Prop} (s x : Operand)
    (ho : o.op = .call { callee := .builtin .append, args := #[s, x], argTypes := #[31, 31] })
    (h : OutAt w O ks c l k ov wq) (hs : a.eval s = ov) {H : Nat} (hH : wq.heap.size = H) (hx : a.eval x = .slice (some ⟨H, 0, none⟩) 1 1) {X Y : Int} (hX : c k = X) (hY : l k = Y) (hk : k ≤ 1048576)
    (hK : ∀ g cap w', w'.cell? ⟨O, 0, none⟩ = some ov → w'.frozen? ⟨O, 0, none⟩ = false → Out w O ks c l (k + 1) (w'.setCell ⟨O, 0, none⟩ (.slice (some ⟨g, 0, none⟩) (k + 1) cap)) → K (a.put o.dst (.slice (some ⟨g, 0, none⟩) (k + 1) cap)) w') :
    o.wp Tryz.prog a (wq.alloc (.cells #[.int .i64 X, .int .i64 Y] 30)) K Q := by
  subst hH
  obtain ⟨i0, hi, hz0, hz1, hz2⟩ := info_parts Tryz.infoTerm
  have hq := bl_alloc (Below.refl wq.heap.size wq) (.cells #[.int .i64 X, .int .i64 Y] 30)
  refine wp_append_lies _ s x 31 ho (O + 1) 30 i0 _ 2 16 Tryz.underlying31 hi hz0 hz1 hz2 rfl (by omega) ov k _ hs (h.own.alloc _) ⟨wq.heap.size, 0, none⟩ 1 1 [.int .i64 X, .int .i64 Y] hx (by rfl)
    (World.news_of_block (heap_alloc_new wq _)) (by simp [Value.oneCell']) (by omega) (by unfold maxLen; omega) (by omega) ?_ (wq.heap.size + 1) (by simp) ?_
  · have := h.o0.1
    have := World.block_lt_of_cell? wq _ this
    simp at this ⊢
    omega
  · intro g cap w' hown hg _ _
    exact hK g cap w' (h.t0 hq hg) (h.u0 hq hg) (h.step hq hX hY hown hg)
set_option maxRecDepth 100000 in
set_option maxHeartbeats 800000 in
theorem step_app1 {ops : Array Oper} {o : Oper} {a : Act} {K : Act → World → Prop} {Q : Exit → Act → World → Prop} {E : Prop} (hgd : o.guard = none) (s x : Operand)
    (ho : o.op = .call { callee := .builtin .append, args := #[s, x], argTypes := #[31, 31] })
    (h : OutAt w O ks c l k ov wq) (hs : a.eval s = ov) {H : Nat} (hH : wq.heap.size = H) (hx : a.eval x = .slice (some ⟨H, 0, none⟩) 1 1) {X Y : Int} (hX : c k = X) (hY : l k = Y) (hk : k ≤ 1048576)
    (hK : ∀ g cap w', w'.cell? ⟨O, 0, none⟩ = some ov → w'.frozen? ⟨O, 0, none⟩ = false → Out w O ks c l (k + 1) (w'.setCell ⟨O, 0, none⟩ (.slice (some ⟨g, 0, none⟩) (k + 1) cap)) → K (a.put o.dst (.slice (some ⟨g, 0, none⟩) (k + 1) cap)) w') :
    if Region.wanted o (yielded ops a.tmps) = true then Oper.wp Tryz.prog o a (wq.alloc (.cells #[.int .i64 X, .int .i64 Y] 30)).drew K Q else E := by
  subst hH
  obtain ⟨i0, hi, hz0, hz1, hz2⟩ := info_parts Tryz.infoTerm
  have hq := (bl_alloc (Below.refl wq.heap.size wq) (.cells #[.int .i64 X, .int .i64 Y] 30)).drew
  refine step_append_lies _ hgd s x 31 ho (O + 1) 30 i0 _ 2 16 Tryz.underlying31 hi hz0 hz1 hz2 rfl (by omega) ov k _ hs ((h.own.alloc _).drew) ⟨wq.heap.size, 0, none⟩ 1 1 [.int .i64 X, .int .i64 Y] hx (by rfl)
    (World.news_of_block (heap_alloc_new wq _)) (by simp [Value.oneCell']) (by omega) (by unfold maxLen; omega) (by omega) ?_ (wq.heap.size + 1) (by simp) ?_
  · have := h.o0.1
    have := World.block_lt_of_cell? wq _ this
    simp at this ⊢
    omega
  · intro g cap w' hown hg _ _
    exact hK g cap w' (h.t0 hq hg) (h.u0 hq hg) (h.step hq hX hY hown hg)
end
end Go.Proofs.YtbebdhjhlheboaaGreat

namespace Go.Proofs.YtbebdhjhlheboaaGreat
open Go.ChangeShapes Go.WideShapes Go.ChangeAt Go.RowKit
section
variable {w : World} {O : Nat} {ks : List (Nat × Nat × Value)} {c l : Nat → Int} {k : Nat} {ov : Value} {wr w1 wq : World}
set_option maxRecDepth 100000 in
set_option maxHeartbeats 800000 in
theorem step_app2 {ops : Array Oper} {o : Oper} {a : Act} {K : Act → World → Prop} {Q : Exit → Act → World → Prop} {E : Prop} (hgd : o.guard = none) (s x : Operand)
    (ho : o.op = .call { callee := .builtin .append, args := #[s, x], argTypes := #[31, 31] })
    (h : OutAt w O ks c l k ov wq) (hs : a.eval s = ov) {H : Nat} (hH : wq.heap.size = H) (hx : a.eval x = .slice (some ⟨H, 0, none⟩) 1 1) {X Y : Int} (hX : c k = X) (hY : l k = Y) (hk : k ≤ 1048576)
    (hK : ∀ g cap w', w'.cell? ⟨O, 0, none⟩ = some ov → w'.frozen? ⟨O, 0, none⟩ = false → Out w O ks c l (k + 1) (w'.setCell ⟨O, 0, none⟩ (.slice (some ⟨g, 0, none⟩) (k + 1) cap)) → (∀ j p v, j ≤ O → wq.cell? ⟨j, p, none⟩ = some v → w'.cell? ⟨j, p, none⟩ = some v) → K (a.put o.dst (.slice (some ⟨g, 0, none⟩) (k + 1) cap)) w') :
    if Region.wanted o (yielded ops a.tmps) = true then Oper.wp Tryz.prog o a (wq.alloc (.cells #[.int .i64 X, .int .i64 Y] 30)).drew K Q else E := by
  subst hH
  obtain ⟨i0, hi, hz0, hz1, hz2⟩ := info_parts Tryz.infoTerm
  have hq := (bl_alloc (Below.refl wq.heap.size wq) (.cells #[.int .i64 X, .int .i64 Y] 30)).drew
  refine step_append_lies _ hgd s x 31 ho (O + 1) 30 i0 _ 2 16 Tryz.underlying31 hi hz0 hz1 hz2 rfl (by omega) ov k _ hs ((h.own.alloc _).drew) ⟨wq.heap.size, 0, none⟩ 1 1 [.int .i64 X, .int .i64 Y] hx (by rfl)
    (World.news_of_block (heap_alloc_new wq _)) (by simp [Value.oneCell']) (by omega) (by unfold maxLen; omega) (by omega) ?_ (wq.heap.size + 1) (by simp) ?_
  · have := h.o0.1
    have := World.block_lt_of_cell? wq _ this
    simp at this ⊢
    omega
  · intro g cap w' hown hg _ _
    exact hK g cap w' (h.t0 hq hg) (h.u0 hq hg) (h.step hq hX hY hown hg) (fun j p v hj hc => hg.cell (a := ⟨j, p, none⟩) (kc hq hc) (h.far hj))
theorem alloc_eq {W : World} {o : Obj} {H : Nat} (h : W.heap.size = H) : (W.alloc o).heap[H]? = some o := by subst h; exact heap_alloc_new W o

set_option maxRecDepth 100000 in
set_option maxHeartbeats 800000 in
theorem wp_appG {o : Oper} {a : Act} {K : Act → World → Prop} {Q : Exit → Act → World → Prop} {W : World} (s x : Operand)
    (ho : o.op = .call { callee := .builtin .append, args := #[s, x], argTypes := #[31, 31] })
    (h : OutAt w O ks c l k ov wq) (hq : Below wq.heap.size wq W) (hs : a.eval s = ov) {H : Nat} (hx : a.eval x = .slice (some ⟨H, 0, none⟩) 1 1) {X Y : Int} (hnew : W.heap[H]? = some (.cells #[.int .i64 X, .int .i64 Y] 30 (0, 0)))
    (hX : c k = X) (hY : l k = Y) (hk : k ≤ 1048576)
    (hK : ∀ g cap w', w'.cell? ⟨O, 0, none⟩ = some ov → w'.frozen? ⟨O, 0, none⟩ = false → Out w O ks c l (k + 1) (w'.setCell ⟨O, 0, none⟩ (.slice (some ⟨g, 0, none⟩) (k + 1) cap)) → K (a.put o.dst (.slice (some ⟨g, 0, none⟩) (k + 1) cap)) w') :
    o.wp Tryz.prog a W K Q := by
  obtain ⟨i0, hi, hz0, hz1, hz2⟩ := info_parts Tryz.infoTerm
  refine wp_append_lies _ s x 31 ho (O + 1) 30 i0 _ 2 16 Tryz.underlying31 hi hz0 hz1 hz2 rfl (by omega) ov k _ hs (row_below h.own hq) ⟨H, 0, none⟩ 1 1 [.int .i64 X, .int .i64 Y] hx (by rfl)
    (World.news_of_block hnew) (by simp [Value.oneCell']) (by omega) (by unfold maxLen; omega) (by omega) ?_ W.heap.size rfl ?_
  · have h1 : O < wq.heap.size := World.block_lt_of_cell? wq ⟨O, 0, none⟩ h.o0.1
    have h2 := hq.size
    omega
  · intro g cap w' hown hg _ _
    exact hK g cap w' (h.t0 hq hg) (h.u0 hq hg) (h.step hq hX hY hown hg)

set_option maxRecDepth 100000 in
set_option maxHeartbeats 800000 in
theorem step_appG {ops : Array Oper} {o : Oper} {a : Act} {K : Act → World → Prop} {Q : Exit → Act → World → Prop} {E : Prop} {W : World} (hgd : o.guard = none) (s x : Operand)
    (ho : o.op = .call { callee := .builtin .append, args := #[s, x], argTypes := #[31, 31] })
    (h : OutAt w O ks c l k ov wq) (hq : Below wq.heap.size wq W) (hs : a.eval s = ov) {H : Nat} (hx : a.eval x = .slice (some ⟨H, 0, none⟩) 1 1) {X Y : Int} (hnew : W.heap[H]? = some (.cells #[.int .i64 X, .int .i64 Y] 30 (0, 0)))
    (hX : c k = X) (hY : l k = Y) (hk : k ≤ 1048576)
    (hK : ∀ g cap w', w'.cell? ⟨O, 0, none⟩ = some ov → w'.frozen? ⟨O, 0, none⟩ = false → Out w O ks c l (k + 1) (w'.setCell ⟨O, 0, none⟩ (.slice (some ⟨g, 0, none⟩) (k + 1) cap)) → K (a.put o.dst (.slice (some ⟨g, 0, none⟩) (k + 1) cap)) w') :
    if Region.wanted o (yielded ops a.tmps) = true then Oper.wp Tryz.prog o a W K Q else E := by
  have hw : Region.wanted o (yielded ops a.tmps) = true := by simp [Region.wanted, hgd]
  rw [if_pos hw]
  exact wp_appG s x ho h hq hs hx hnew hX hY hk hK

/-- The second field of the struct written. -/
theorem OutAt.setB {ks0 : List (Nat × Nat × Value)} {u v : Value} (h0 : ∀ x ∈ ks0, x.1 < O) (h : OutAt w O ((O, 1, u) :: ks0) c l k ov wr) : OutAt w O ((O, 1, v) :: ks0) c l k ov (wr.setCell ⟨O, 1, none⟩ v) := by
  have hO := h.hO
  refine ⟨h.o0.set (by omega), ownsRow_setCell_below h.own (by show O < O + 1; omega) _, fun x hx => ?_, h.bel.setCell (by show w.heap.size ≤ O; omega) _, hO⟩
  rcases List.mem_cons.1 hx with rfl | hx
  · exact ⟨.inr ⟨rfl, by simp⟩, (h.keep (O, 1, u) (List.mem_cons_self ..)).2.put⟩
  · obtain ⟨h1, h2⟩ := h.keep x (List.mem_cons_of_mem _ hx)
    have := h0 x hx
    exact ⟨h1, h2.set (by omega)⟩
end
end Go.Proofs.YtbebdhjhlheboaaGreat

namespace Go.Proofs.YtbebdhjhlheboaaGreat
open Go.ChangeShapes Go.WideShapes Go.ChangeAt Go.RowKit

/-- What the fixing of a constraint leaves. -/
def FxRes (w : World) (v : Nat → Int) (x : Con) (e : Ending) (w' : World) : Prop :=
  ∃ A cap, e = .returned (.agg #[.slice A (fxCon v x).n cap, .int .i64 (fxCon v x).bd]) ∧ Frs w' w.heap.size A (fxCon v x).n (fxCon v x).c (fxCon v x).l ∧ Below w.heap.size w w'

set_option maxRecDepth 100000 in
set_option maxHeartbeats 3200000 in
theorem l13Fix_any (A Av : Option Addr) (n cap capv : Nat) (bd : Int) (c l : Nat → Int) (v : Nat → Int) (w : World) (hn : n ≤ 1048576) (hr : Rd w w.heap.size A n c l) (hrv : RdI w w.heap.size Av 12 v) (hval : validB n c l bd = true) (hv : ∀ i, i < 12 → -1 ≤ v i ∧ v i ≤ 1) :
    Calls Tryz.prog 43 #[.agg #[.slice A n cap, .int .i64 bd], .slice Av 12 capv] w (FxRes w v ⟨n, bd, c, l⟩) := by
  have hbd := vb_bd hval
  have Hval := Lib.hid hval
  have HV := Lib.hid hv
  clear hval hv
  have hfx0 : fxS c l bd v 0 = bd := rfl
  go_enter Tryz.func43, Tryz.ntmps43
  go_wp2
  go_loopw [6] (fun i wr => ∃ k : Nat, k ≤ n ∧ i = .int .i64 k ∧ Out w (w.heap.size + 1 + 1) ((w.heap.size + 1 + 1, 1, .int .i64 (fxS c l bd v k)) :: [(w.heap.size, 0, .slice A n cap), (w.heap.size + 1, 0, .slice none 0 0), (w.heap.size + 1, 1, .int .i64 0)]) (pkC (fxR c l v n)) (pkL (fxR c l v n)) (fxR c l v k).length wr) (fun i _ => n - (intOf i).toNat)
  case atStart =>
    refine ⟨0, Nat.zero_le _, rfl, .slice none 0 0, ⟨by go_simp, by go_simp⟩, World.ownsRow_nil _ _ _ _, fun x hx => ?_, by repeat (first | exact Below.refl _ _ | refine bl_alloc ?_ _ | refine Below.drew ?_), by omega⟩
    rw [hfx0] at hx
    simp only [List.mem_cons, List.not_mem_nil, or_false] at hx
    rcases hx with rfl | rfl | rfl | rfl
    all_goals exact ⟨by first | (simp; done) | (simp; omega), by go_simp, by go_simp⟩
  case round =>
    obtain ⟨k, hk, rfl, ov, old⟩ := hrel
    have b00 := (old.at_ (j := w.heap.size) (o := 0) (v := .slice A n cap) (by simp)).1
    obtain ⟨r0, f0⟩ := old.at_ (j := w.heap.size + 1) (o := 0) (v := .slice none 0 0) (by simp)
    obtain ⟨r1, f1⟩ := old.at_ (j := w.heap.size + 1) (o := 1) (v := .int .i64 0) (by simp)
    obtain ⟨o1, g1⟩ := old.at_ (j := w.heap.size + 1 + 1) (o := 1) (v := .int .i64 (fxS c l bd v k)) (by simp)
    obtain ⟨o0, g0⟩ := old.o0
    have Old := Lib.hid old
    have hbw := old.bel
    have hz : w.heap.size + 1 + 1 < wr.heap.size := World.block_lt_of_cell? wr _ o0
    have hrg := fxS_le (c := c) (l := l) (v := v) (bd := bd) (n := k) (fun i hi => vb_coef Hval.out i (by omega))
    clear old hfx0
    by_cases hlt : k < n
    · have hco := vb_coef Hval.out k hlt
      have hL := Lib.hid (litAt Hval.out hlt)
      have hst := stV_bd hL.out HV.out
      have HRV := Lib.hid (hrv.later hbw)
      obtain ⟨b, off, rfl, hbl, hc⟩ := (hr.below hbw) (by omega)
      obtain ⟨hc1, hc2⟩ := hc k hlt
      have hzb : b < wr.heap.size := Nat.lt_of_lt_of_le hbl hbw.size
      have hkI : (k : Int) < (n : Int) := by omega
      have hkJ : (0 : Int) ≤ (k : Int) := by omega
      have hq1 : w.heap.size + 1 < wr.heap.size := by omega
      have hq0 : w.heap.size < wr.heap.size := by omega
      clear hc hr hbw hrv
      by_cases he : stV v (l k) = 0
      · have hkp := Lib.hid (fxR_yes (c := c) (l := l) (v := v) (k := k) he)
        have hwk := Lib.hid (fxS_no (c := c) (l := l) (v := v) (bd := bd) (k := k) (by omega))
        obtain ⟨hX, hY⟩ := pk_at (c := c) (l := l) (q := fxQ l v) hlt (decide_eq_true he)
        have HX := Lib.hid (show pkC (fxR c l v n) (fxR c l v k).length = c k from hX)
        have HY := Lib.hid (show pkL (fxR c l v n) (fxR c l v k).length = l k from hY)
        have hkl : (fxR c l v k).length ≤ 1048576 := by have := fxR_le (c := c) (l := l) (v := v) k; omega
        have hcall := fun W (hW : W = wr) => l3State_any Av capv v (l k) W hL.out (by rw [hW]; exact HRV.out) HV.out
        rw [he] at hcall
        have Hcall := Lib.hid hcall
        clear hX hY hrg hst he hcall
        go_wp2_with fail
        refine (Hcall.out _ rfl).mono ?_
        rintro e w' ⟨rfl, hw⟩
        subst hw
        go_upto_region 7 with fail
        go_region_law (refine step_appG (by rfl) _ _ (by rfl) Old.out (by repeat (first | exact Below.refl _ _ | refine bl_alloc ?_ _ | refine Below.drew ?_)) (by rfl) (by rfl) (alloc_eq (by first | assumption | rfl | simp)) HX.out HY.out hkl ?_; intro gg cap1 w3 t0 u0 hout)
        all_goals
          go_wp2
          go_roundw
          case rel => exact ⟨k + 1, by omega, by go_num, by rw [hkp.out, hwk.out, List.length_append]; exact hout⟩
          case measure => simp [intOf]; omega
      · have hkp := Lib.hid (fxR_no (c := c) (l := l) (v := v) (k := k) he)
        by_cases he1 : stV v (l k) = 1
        · have hwk := Lib.hid (fxS_yes (c := c) (l := l) (v := v) (bd := bd) (k := k) he1)
          have hw64 : IntKind.i64.wrap (fxS c l bd v k - c k) = fxS c l bd v k - c k := IntWalk.i64_in _ (by omega)
          have low3 : ∀ x ∈ [(w.heap.size, 0, Value.slice (some ⟨b, off, none⟩) n cap), (w.heap.size + 1, 0, .slice none 0 0), (w.heap.size + 1, 1, .int .i64 0)], x.1 < w.heap.size + 1 + 1 := by
            intro x hx
            simp only [List.mem_cons, List.not_mem_nil, or_false] at hx
            rcases hx with rfl | rfl | rfl
            all_goals (dsimp only; omega)
          have hcall := fun W (hW : W = wr) => l3State_any Av capv v (l k) W hL.out (by rw [hW]; exact HRV.out) HV.out
          rw [he1] at hcall
          have Hcall := Lib.hid hcall
          clear hrg hst he he1 hcall
          go_wp2_with fail
          refine (Hcall.out _ rfl).mono ?_
          rintro e w' ⟨rfl, hw⟩
          subst hw
          go_upto_region 9 with fail
          go_still_tail 10, (by kernel_rfl)
          change wpList _ _ _ _ _ wr.drew
          go_wp2
          go_roundw
          case rel =>
            refine ⟨k + 1, by omega, by go_num, ?_⟩
            rw [hwk.out, hkp.out]
            exact ⟨_, (Old.out.setB low3).below ((Below.refl _ _).drew)⟩
          case measure => simp [intOf]; omega
        · have hwk := Lib.hid (fxS_no (c := c) (l := l) (v := v) (bd := bd) (k := k) he1)
          have h2 : stV v (l k) = -1 := by omega
          have hcall := fun W (hW : W = wr) => l3State_any Av capv v (l k) W hL.out (by rw [hW]; exact HRV.out) HV.out
          rw [h2] at hcall
          have Hcall := Lib.hid hcall
          clear hrg hst he he1 hcall h2
          go_wp2_with fail
          refine (Hcall.out _ rfl).mono ?_
          rintro e w' ⟨rfl, hw⟩
          subst hw
          go_wp2
          go_roundw
          case rel => exact ⟨k + 1, by omega, by go_num, by rw [hwk.out, hkp.out]; exact ⟨_, Old.out⟩⟩
          case measure => simp [intOf]; omega
    · have e : k = n := by omega
      subst e
      obtain ⟨A', cap', rfl, hF⟩ := Old.out.frs
      have HF := Lib.hid hF
      have HB := Lib.hid hbw
      have hq1 : w.heap.size + 1 < wr.heap.size := by omega
      clear hF hbw hr hrg hrv
      by_cases hneg : fxS c l bd v k < 0
      · have hcp := Lib.hid (show fxP (fxS c l bd v k) = 0 from if_pos hneg)
        go_wp2
        refine bodyPost_ret (v := .agg #[.slice A' (fxR c l v k).length cap', .int .i64 0]) (by simp [results, Tryz.results43, go_sem, r0, r1]) rfl ?_
        refine ⟨A', cap', by show _ = Ending.returned (.agg #[.slice A' (fxR c l v k).length cap', .int .i64 (fxP (fxS c l bd v k))]); rw [hcp.out], ?_, ?_⟩
        · exact (((HF.out.far (by simp) (by simp) _).far (by simp) (by first | (simp; done) | (simp; omega)) _).far (by simp) (by first | (simp; done) | (simp; omega)) _).more (by omega)
        · exact ((HB.out.setCell (by first | (simp; done) | (simp; omega)) _).setCell (by simp) _).setCell (by simp) _
      · have hcp := Lib.hid (show fxP (fxS c l bd v k) = fxS c l bd v k from if_neg hneg)
        go_wp2
        refine bodyPost_ret (v := .agg #[.slice A' (fxR c l v k).length cap', .int .i64 (fxS c l bd v k)]) (by simp [results, Tryz.results43, go_sem, r0, r1]) rfl ?_
        refine ⟨A', cap', by show _ = Ending.returned (.agg #[.slice A' (fxR c l v k).length cap', .int .i64 (fxP (fxS c l bd v k))]); rw [hcp.out], ?_, ?_⟩
        · exact ((HF.out.far (by simp) (by first | (simp; done) | (simp; omega)) _).far (by simp) (by first | (simp; done) | (simp; omega)) _).more (by omega)
        · exact (HB.out.setCell (by simp) _).setCell (by simp) _
end Go.Proofs.YtbebdhjhlheboaaGreat

namespace Go.Proofs.YtbebdhjhlheboaaGreat
open Go.ChangeShapes Go.WideShapes Go.ChangeAt Go.RowKit

/-- All blocks but those of a set lie as they did. -/
structure OnlyS (S : Nat → Prop) (w w' : World) : Prop where
  os : w'.os = w.os
  tape : w'.tape = w.tape
  output : w'.output = w.output
  size : w.heap.size ≤ w'.heap.size
  block : ∀ k, k < w.heap.size → ¬ S k → w'.heap[k]? = w.heap[k]?
section
variable {S S' : Nat → Prop} {w w' w1 : World} {A : Option Addr} {n lo hi : Nat}
theorem OnlyS.refl (S : Nat → Prop) (w : World) : OnlyS S w w := ⟨rfl, rfl, rfl, Nat.le_refl _, fun _ _ _ => rfl⟩
theorem OnlyS.trans (h : OnlyS S w w1) (h' : OnlyS S w1 w') : OnlyS S w w' :=
  ⟨h'.os.trans h.os, h'.tape.trans h.tape, h'.output.trans h.output, Nat.le_trans h.size h'.size, fun k hk hs => (h'.block k (Nat.lt_of_lt_of_le hk h.size) hs).trans (h.block k hk hs)⟩
theorem OnlyS.mono (h : OnlyS S w w') (hs : ∀ k, S k → S' k) : OnlyS S' w w' := ⟨h.os, h.tape, h.output, h.size, fun k hk hn => h.block k hk fun e => hn (hs k e)⟩
theorem OnlyS.range (h : OnlyS S w w') (hs : ∀ k, S k → lo ≤ k ∧ k < hi) : OnlyR lo hi w w' :=
  ⟨h.os, h.tape, h.output, h.size, fun k hk hr => h.block k hk fun e => by have := hs k e; omega⟩
theorem Only.toS (h : Only w w' A n) (hs : n ≠ 0 → ∀ a, A = some a → S a.block) : OnlyS S w w' :=
  ⟨h.os, h.tape, h.output, h.size, fun k hk hn => h.block k hk (by
    by_cases e : n = 0
    · exact .inl e
    · exact .inr fun a ha hh => hn (by rw [hh]; exact hs e a ha))⟩
end

end Go.Proofs.YtbebdhjhlheboaaGreat

namespace Go.Proofs.YtbebdhjhlheboaaGreat
open Go.ChangeShapes Go.WideShapes Go.ChangeAt Go.RowKit

/-- The heads of a row of constraints that lies in block G: each leads to room for its terms, in another block of the range. -/
def HdP (w : World) (lo hi G n : Nat) (ns : Nat → Nat) : Prop :=
  ∃ cs : Array Value, w.heap[G]? = some (.cells cs 33 (0, 0)) ∧ n * 2 ≤ cs.size ∧
    ∀ i, i < n → ∃ g ci, cs[i * 2]? = some (.slice (some ⟨g, 0, none⟩) (ns i) ci) ∧ g ≠ G ∧ lo ≤ g ∧ g < hi ∧ Room w g 30 (ns i * 2)
section
variable {w w' : World} {lo hi G n : Nat} {ns : Nat → Nat}
theorem HdP.room (h : HdP w lo hi G n ns) : Room w G 33 (n * 2) := by
  obtain ⟨cs, h1, h2, _⟩ := h
  exact ⟨cs, h1, h2⟩
theorem HdP.keep (h : HdP w lo hi G n ns) (hg : w'.heap[G]? = w.heap[G]?) (hs : Shp w w') : HdP w' lo hi G n ns := by
  obtain ⟨cs, h1, h2, h3⟩ := h
  refine ⟨cs, hg.trans h1, h2, fun i hi => ?_⟩
  obtain ⟨g, ci, a, b, c, d, e⟩ := h3 i hi
  exact ⟨g, ci, a, b, c, d, e.shp hs⟩
theorem HdP.set_ (h : HdP w lo hi G n ns) (j : Nat) (u : Value) : HdP (w.setCell ⟨G, j * 2 + 1, none⟩ u) lo hi G n ns := by
  obtain ⟨cs, h1, h2, h3⟩ := h
  refine ⟨cs.setIfInBounds (j * 2 + 1) u, by simp [World.setCell, Array.getElem?_modify, h1], by simp [h2], fun i hi => ?_⟩
  obtain ⟨g, ci, a, b, c, d, e⟩ := h3 i hi
  exact ⟨g, ci, by rw [Array.getElem?_setIfInBounds, if_neg (by omega)]; exact a, b, c, d, e.shp ((Shp.refl _).set_ _ _ _)⟩
end
theorem OwnP.hd {w : World} {lo G n : Nat} {p : Nat → Con} (h : OwnP w G n n p) (hlo : lo ≤ G) : HdP w lo w.heap.size G n (fun i => (p i).n) := by
  obtain ⟨cs, h1, h2, h3⟩ := h
  refine ⟨cs, h1, by omega, fun i hi => ?_⟩
  obtain ⟨g, hg, a, b, c⟩ := h3 i hi
  have hlt := c.lt
  obtain ⟨ds, d1, d2, _⟩ := c
  exact ⟨g, _, a, by omega, by omega, hlt, ds, d1, Nat.le_of_eq d2.symm⟩

end Go.Proofs.YtbebdhjhlheboaaGreat

namespace Go.Proofs.YtbebdhjhlheboaaGreat
open Go.ChangeShapes Go.WideShapes Go.ChangeAt Go.RowKit

/-- Constraints that a call has made: their heads lie in the block that A names, the terms of constraint i in block f i; those that are not empty differ. -/
structure OwnCs (w : World) (A : Option Addr) (n : Nat) (p : Nat → Con) (f : Nat → Nat) : Prop where
  row : n = 0 ∨ ∃ G cs, A = some ⟨G, 0, none⟩ ∧ w.heap[G]? = some (.cells cs 33 (0, 0)) ∧ ∀ i, i < n → ∃ Ai ci, cs[i * 2]? = some (.slice Ai (p i).n ci) ∧ cs[i * 2 + 1]? = some (.int .i64 (p i).bd) ∧ ((p i).n = 0 ∨ Ai = some ⟨f i, 0, none⟩)
  els : ∀ i, i < n → (p i).n = 0 ∨ OwnU w (f i) (p i).n (p i).n (p i).c (p i).l
  inj : ∀ i j, i < n → j < n → (p i).n ≠ 0 → (p j).n ≠ 0 → i ≠ j → f i ≠ f j
/-- In which blocks they lie. -/
def SC (A : Option Addr) (n : Nat) (p : Nat → Con) (f : Nat → Nat) (b : Nat) : Prop := (n ≠ 0 ∧ ∃ a, A = some a ∧ a.block = b) ∨ ∃ i, i < n ∧ (p i).n ≠ 0 ∧ f i = b
section
variable {w w' w1 : World} {A Ai : Option Addr} {n ci lo hi lo' hi' : Nat} {p p' : Nat → Con} {f : Nat → Nat} {S : Nat → Prop}
theorem block_lt {w : World} {G : Nat} {o : Obj} (h : w.heap[G]? = some o) : G < w.heap.size := by
  rcases Nat.lt_or_ge G w.heap.size with hlt | hge
  · exact hlt
  · rw [Array.getElem?_eq_none hge] at h; cases h
theorem OwnCs.lt (h : OwnCs w A n p f) {b : Nat} (hb : SC A n p f b) : b < w.heap.size := by
  rcases hb with ⟨e, a, ha, rfl⟩ | ⟨i, h0, h1, rfl⟩
  · rcases h.row with hr | ⟨G, cs, rfl, h1, _⟩
    · exact absurd hr e
    · cases ha
      exact block_lt h1
  · rcases h.els i h0 with e | e
    · exact absurd e h1
    · exact e.lt
theorem OwnCs.keep (h : OwnCs w A n p f) (hb : ∀ b, SC A n p f b → w'.heap[b]? = w.heap[b]?) : OwnCs w' A n p f := by
  obtain ⟨hr, he, hi⟩ := h
  refine ⟨?_, fun i h0 => ?_, hi⟩
  · by_cases e : n = 0
    · exact .inl e
    · rcases hr with hr | ⟨G, cs, rfl, h1, h2⟩
      · exact .inl hr
      · exact .inr ⟨G, cs, rfl, (hb G (.inl ⟨e, _, rfl, rfl⟩)).trans h1, h2⟩
  · rcases he i h0 with h1 | h1
    · exact .inl h1
    · by_cases e : (p i).n = 0
      · exact .inl e
      · exact .inr (h1.at_ (hb _ (.inr ⟨i, h0, e, rfl⟩)))
theorem OwnCs.onlyS (h : OwnCs w A n p f) (ho : OnlyS S w w') (hs : ∀ b, SC A n p f b → ¬ S b) : OwnCs w' A n p f :=
  h.keep fun b hb => ho.block b (h.lt hb) (hs b hb)
theorem OwnCs.below (h : OwnCs w A n p f) (hb : Below w.heap.size w w') : OwnCs w' A n p f :=
  h.keep fun b hs => hb.block b (h.lt hs)
theorem OwnCs.cell (h : OwnCs w A n p f) {i : Nat} (hi : i < n) : ∃ G Ai ci, A = some ⟨G, 0, none⟩ ∧ w.cell? ⟨G, i * 2, none⟩ = some (.slice Ai (p i).n ci) ∧ w.cell? ⟨G, i * 2 + 1, none⟩ = some (.int .i64 (p i).bd) ∧ w.frozen? ⟨G, i * 2 + 1, none⟩ = false ∧ ((p i).n = 0 ∨ Ai = some ⟨f i, 0, none⟩) ∧ Frs w 0 Ai (p i).n (p i).c (p i).l := by
  rcases h.row with e | ⟨G, cs, rfl, h1, h2⟩
  · omega
  · obtain ⟨Ai, ci, a, b, c⟩ := h2 i hi
    refine ⟨G, Ai, ci, rfl, (cell_of_row w G _ cs _ _ h1).trans a, (cell_of_row w G _ cs _ _ h1).trans b, by simp [World.frozen?, h1], c, ?_⟩
    rcases c with e | e
    · exact .inl e
    · rcases h.els i hi with k | k
      · exact .inl k
      · exact .inr ⟨_, e, Nat.zero_le _, k⟩
theorem OwnCs.rd (h : OwnCs w A n p f) : RdP w w.heap.size A n p := fun h0 => by
  rcases h.row with e | ⟨G, cs, rfl, h1, h2⟩
  · omega
  · refine ⟨G, 0, rfl, block_lt h1, fun i hi => ?_⟩
    obtain ⟨G', Ai, ci, e, hc, hd, _, _, hf⟩ := h.cell hi
    cases e
    rw [Nat.zero_add]
    exact ⟨Ai, ci, hc, hd, hf.rdAt⟩
/-- One of the constraints is laid anew: its terms, then its bound. -/
theorem OwnCs.put (h : OwnCs w A n p f) {j G : Nat} (hj : j < n) (hAG : A = some ⟨G, 0, none⟩) (hA : (p j).n = 0 ∨ Ai = some ⟨f j, 0, none⟩) (ho : Only w w1 Ai (p j).n) (hv : Frs w1 0 Ai (p j).n (p' j).c (p' j).l) (hn : (p' j).n = (p j).n) (he : ∀ i, i < n → i ≠ j → p' i = p i) :
    OwnCs (w1.setCell ⟨G, j * 2 + 1, none⟩ (.int .i64 (p' j).bd)) A n p' f ∧ OnlyS (SC A n p f) w (w1.setCell ⟨G, j * 2 + 1, none⟩ (.int .i64 (p' j).bd)) ∧ (∃ u, w1.cell? ⟨G, j * 2 + 1, none⟩ = some u) ∧ w1.frozen? ⟨G, j * 2 + 1, none⟩ = false := by
  have hne : ∀ b, b < w.heap.size → ((p j).n = 0 ∨ b ≠ f j) → w1.heap[b]? = w.heap[b]? := fun b hl hb => ho.block b hl (by
    rcases hb with e | e
    · exact .inl e
    · rcases hA with k | k
      · exact .inl k
      · exact .inr fun a ha hh => by rw [k] at ha; cases ha; exact e hh)
  have hnn : ∀ i, i < n → (p' i).n = (p i).n := fun i hi => by
    by_cases e : i = j
    · rw [e]; exact hn
    · rw [he i hi e]
  obtain ⟨G', cs, eG, h1, h2⟩ := h.row.resolve_left (by omega)
  rw [hAG] at eG
  cases eG
  have hty : ∀ i, i < n → (p i).n ≠ 0 → f i ≠ G := fun i hi hz e => by
    rcases h.els i hi with k | ⟨cs', h3, _⟩
    · exact hz k
    · rw [e, h1] at h3
      injection h3 with h3
      injection h3 with _ h4 _
      exact absurd h4 (by decide)
  have hG1 : w1.heap[G]? = some (.cells cs 33 (0, 0)) := (hne G (block_lt h1) (by
    by_cases z : (p j).n = 0
    · exact .inl z
    · exact .inr fun e => hty j hj z e.symm)).trans h1
  have hset : (w1.setCell ⟨G, j * 2 + 1, none⟩ (.int .i64 (p' j).bd)).heap[G]? = some (.cells (cs.setIfInBounds (j * 2 + 1) (.int .i64 (p' j).bd)) 33 (0, 0)) := by
    simp [World.setCell, Array.getElem?_modify, hG1]
  refine ⟨⟨.inr ⟨G, _, hAG, hset, fun i hi => ?_⟩, fun i hi => ?_, fun i k hi hk h1 h2 => h.inj i k hi hk (by rw [← hnn i hi]; exact h1) (by rw [← hnn k hk]; exact h2)⟩, ?_, ?_, by simp [World.frozen?, hG1]⟩
  · obtain ⟨Ai', ci, a, b, c⟩ := h2 i hi
    rw [hnn i hi, Array.getElem?_setIfInBounds, Array.getElem?_setIfInBounds]
    refine ⟨Ai', ci, by rw [if_neg (by omega)]; exact a, ?_, c⟩
    by_cases e : i = j
    · subst e
      have hsz : i * 2 + 1 < cs.size := by
        rcases Nat.lt_or_ge (i * 2 + 1) cs.size with hlt | hge
        · exact hlt
        · rw [Array.getElem?_eq_none hge] at b; cases b
      rw [if_pos rfl, if_pos hsz]
    · rw [if_neg (by omega), b, he i hi e]
  · by_cases z : (p i).n = 0
    · exact .inl (by rw [hnn i hi]; exact z)
    · have hsg : ∀ u, (w1.setCell ⟨G, j * 2 + 1, none⟩ u).heap[f i]? = w1.heap[f i]? := fun u => Below.heap_setCell w1 ⟨G, j * 2 + 1, none⟩ u (f i) (hty i hi z)
      by_cases e : i = j
      · subst e
        rw [hn]
        rcases hv with k | ⟨g, e1, _, k⟩
        · exact .inl k
        · rcases hA with y | y
          · exact .inl y
          · rw [y] at e1
            cases e1
            exact .inr (k.at_ (hsg _))
      · rw [he i hi e]
        rcases h.els i hi with k | k
        · exact .inl k
        · refine .inr ((k.at_ (hne _ k.lt ?_)).at_ (hsg _))
          by_cases z' : (p j).n = 0
          · exact .inl z'
          · exact .inr (h.inj i j hi hj z z' e)
  · refine ⟨ho.os, ho.tape, ho.output, by simpa [World.setCell] using ho.size, fun k hk hs => ?_⟩
    have hkG : k ≠ G := fun e => hs (.inl ⟨by omega, _, hAG, e.symm⟩)
    refine (Below.heap_setCell w1 ⟨G, j * 2 + 1, none⟩ _ k hkG).trans (hne k hk ?_)
    by_cases z : (p j).n = 0
    · exact .inl z
    · exact .inr fun e => hs (.inr ⟨j, hj, z, e.symm⟩)
  · obtain ⟨_, _, _, b, _⟩ := h2 j hj
    exact ⟨_, (cell_of_row w1 G _ cs _ _ hG1).trans b⟩
end

/-- The constraints that the marking lays: the first j of them. -/
def mkP (k : Int) (p : Nat → Con) (j i : Nat) : Con := if i < j then ⟨(p i).n, k + 2 * (tot p i : Int) + (i : Int) + 2 * ((p i).n : Int), mkC (k + 2 * (tot p i : Int) + (i : Int)), mkL (k + 2 * (tot p i : Int) + (i : Int))⟩ else p i
theorem mkP_n (k : Int) (p : Nat → Con) (j i : Nat) : (mkP k p j i).n = (p i).n := by unfold mkP; split <;> rfl
theorem mkP_zero (k : Int) (p : Nat → Con) : mkP k p 0 = p := funext fun i => if_neg (by omega)
theorem mkP_at (k : Int) (p : Nat → Con) (j : Nat) : mkP k p j j = p j := if_neg (by omega)
theorem mkP_lt (k : Int) (p : Nat → Con) {j n : Nat} (h : j < n) : mkP k p n j = ⟨(p j).n, k + 2 * (tot p j : Int) + (j : Int) + 2 * ((p j).n : Int), mkC (k + 2 * (tot p j : Int) + (j : Int)), mkL (k + 2 * (tot p j : Int) + (j : Int))⟩ := if_pos h
theorem mkP_next (k : Int) (p : Nat → Con) {j i : Nat} (h : i ≠ j) : mkP k p (j + 1) i = mkP k p j i := by
  unfold mkP
  by_cases e : i < j
  · rw [if_pos (by omega), if_pos e]
  · rw [if_neg (by omega), if_neg e]
theorem SC.mk_ {A : Option Addr} {k : Int} {p : Nat → Con} {f : Nat → Nat} {n j b : Nat} (h : SC A n (mkP k p j) f b) : SC A n p f b := by
  rcases h with h | ⟨i, h1, h2, h3⟩
  · exact .inl h
  · exact .inr ⟨i, h1, by rw [← mkP_n k p j i]; exact h2, h3⟩
theorem SC.of_mk {A : Option Addr} {k : Int} {p : Nat → Con} {f : Nat → Nat} {n j b : Nat} (h : SC A n p f b) : SC A n (mkP k p j) f b := by
  rcases h with h | ⟨i, h1, h2, h3⟩
  · exact .inl h
  · exact .inr ⟨i, h1, by rw [mkP_n k p j i]; exact h2, h3⟩
theorem add4 (k : Int) (p : Nat → Con) (j : Nat) : Value.int .i64 (k + 2 * (tot p j : Int) + (j : Int) + 2 * ((p j).n : Int) + 1) = .int .i64 (k + 2 * ((tot p (j + 1) : Nat) : Int) + ((j + 1 : Nat) : Int)) := by
  congr 1
  show _ = k + 2 * ((tot p j + (p j).n : Nat) : Int) + ((j + 1 : Nat) : Int)
  omega

/-- Constraints that a call has made, in blocks from lo on and below hi. -/
def FC2 (w : World) (lo hi : Nat) (A : Option Addr) (n : Nat) (p : Nat → Con) : Prop := ∃ f, OwnCs w A n p f ∧ ∀ b, SC A n p f b → lo ≤ b ∧ b < hi
/-- Constraints that a call has made, in blocks from lo on. -/
def FrC (w : World) (lo : Nat) (A : Option Addr) (n : Nat) (p : Nat → Con) : Prop := ∃ f, OwnCs w A n p f ∧ ∀ b, SC A n p f b → lo ≤ b
section
variable {w w' w1 : World} {A : Option Addr} {n cap lo hi lo' hi' : Nat} {p : Nat → Con}
theorem FrC.two (h : FrC w lo A n p) : FC2 w lo w.heap.size A n p := by
  obtain ⟨f, h1, h2⟩ := h
  exact ⟨f, h1, fun b hb => ⟨h2 b hb, h1.lt hb⟩⟩
theorem FC2.one (h : FC2 w lo hi A n p) : FrC w lo A n p := by
  obtain ⟨f, h1, h2⟩ := h
  exact ⟨f, h1, fun b hb => (h2 b hb).1⟩
theorem FrC.rdAt (h : FrC w lo A n p) : RdP w w.heap.size A n p := by
  obtain ⟨f, h1, _⟩ := h
  exact h1.rd
theorem FC2.rdAt (h : FC2 w lo hi A n p) : RdP w w.heap.size A n p := h.one.rdAt
theorem FrC.below (h : FrC w lo A n p) (hb : Below w.heap.size w w') : FrC w' lo A n p := by
  obtain ⟨f, h1, h2⟩ := h
  exact ⟨f, h1.below hb, h2⟩
theorem FC2.below (h : FC2 w lo hi A n p) (hb : Below w.heap.size w w') : FC2 w' lo hi A n p := by
  obtain ⟨f, h1, h2⟩ := h
  exact ⟨f, h1.below hb, h2⟩
theorem FrC.more (h : FrC w lo A n p) (hl : lo' ≤ lo) : FrC w lo' A n p := by
  obtain ⟨f, h1, h2⟩ := h
  exact ⟨f, h1, fun b hb => by have := h2 b hb; omega⟩
theorem FC2.onlyR (h : FC2 w lo hi A n p) (ho : OnlyR lo' hi' w w') (hd : hi ≤ lo' ∨ hi' ≤ lo) : FC2 w' lo hi A n p := by
  obtain ⟨f, h1, h2⟩ := h
  exact ⟨f, h1.keep fun b hb => ho.block b (h1.lt hb) (by have := h2 b hb; omega), h2⟩
/-- A marking of a slice in a range turns that range alone. -/
theorem onlyR_ints {T : TypeId} {v : Nat → Int} (h : FI2 w lo hi T A n v) (ho : Only w w' A n) : OnlyR lo hi w w' :=
  ⟨ho.os, ho.tape, ho.output, ho.size, fun k hk hr => ho.block k hk (by
    rcases h with e | ⟨G, e, h1, h2, _⟩
    · exact .inl e
    · exact .inr fun a ha hh => by
        rw [e] at ha
        cases ha
        have : k = G := hh
        omega)⟩
theorem frc_nil (w : World) (lo : Nat) (A : Option Addr) (p : Nat → Con) : FrC w lo A 0 p := ⟨fun _ => 0, ⟨.inl rfl, fun i hi => absurd hi (by omega), fun i j hi => absurd hi (by omega)⟩, fun b hb => by
  rcases hb with ⟨h, _⟩ | ⟨i, hi, _⟩
  · exact absurd rfl h
  · omega⟩
end
/-- Constraints that a call builds one by one: the first k of them, their terms in blocks from B on and below hi. -/
structure GrwC (w : World) (B hi : Nat) (ov : Value) (k : Nat) (xs : List Value) (p : Nat → Con) (f : Nat → Nat) : Prop where
  own : w.ownsRow B 33 2 ov k xs
  len : xs.length = k * 2
  els : ∀ i, i < k → ∃ Ai ci, xs[i * 2]? = some (.slice Ai (p i).n ci) ∧ xs[i * 2 + 1]? = some (.int .i64 (p i).bd) ∧ ((p i).n = 0 ∨ (Ai = some ⟨f i, 0, none⟩ ∧ B ≤ f i ∧ f i < hi ∧ OwnU w (f i) (p i).n (p i).n (p i).c (p i).l))
  inj : ∀ i j, i < k → j < k → (p i).n ≠ 0 → (p j).n ≠ 0 → i ≠ j → f i ≠ f j
section
variable {w W w' : World} {B hi hi' k : Nat} {ov : Value} {xs : List Value} {p : Nat → Con} {f : Nat → Nat}
theorem GrwC.at_ (h : GrwC w B hi ov k xs p f) (hb : ∀ j, j < w.heap.size → w'.heap[j]? = w.heap[j]?) : GrwC w' B hi ov k xs p f := by
  refine ⟨⟨h.own.1, ?_⟩, h.len, fun i hi => ?_, h.inj⟩
  · rcases h.own.2 with hh | ⟨g, cap, cur, e1, hg, hh, hr⟩
    · exact .inl hh
    · exact .inr ⟨g, cap, cur, e1, hg, (hb g (block_lt hh)).trans hh, hr⟩
  · obtain ⟨Ai, ci, h1, h2, h3⟩ := h.els i hi
    refine ⟨Ai, ci, h1, h2, ?_⟩
    rcases h3 with e | ⟨a, b, c, d⟩
    · exact .inl e
    · exact .inr ⟨a, b, c, d.at_ (hb _ d.lt)⟩
theorem GrwC.below (h : GrwC w B hi ov k xs p f) (hb : Below w.heap.size w w') : GrwC w' B hi ov k xs p f := h.at_ fun j hj => hb.block j hj
theorem GrwC.far (h : GrwC w B hi ov k xs p f) (hb : Below w.heap.size w W) {H : Nat} (hH : w.heap.size ≤ H) (o : Nat) (u : Value) : GrwC (W.setCell ⟨H, o, none⟩ u) B hi ov k xs p f :=
  h.at_ fun j hj => (Below.heap_setCell W ⟨H, o, none⟩ u j (by show j ≠ H; omega)).trans (hb.block j hj)
theorem GrwC.nil_or (h : GrwC w B hi ov k xs p f) : (ov = .slice none 0 0 ∧ k = 0) ∨ ∃ g cap cur, ov = .slice (some ⟨g, 0, none⟩) k cap ∧ w.heap[g]? = some (.cells cur 33 (0, 0)) := by
  rcases h.own.2 with h1 | ⟨g, cap, cur, e, _, hh, _⟩
  · exact .inl h1
  · exact .inr ⟨g, cap, cur, e, hh⟩
theorem GrwC.lt (h : GrwC w B hi ov k xs p f) : ∀ j, ov.ownBlock = some j → B ≤ j ∧ j < w.heap.size := fun j e => h.own.lt j e
theorem grw_lit (W : World) (hi : Nat) (p : Nat → Con) (f : Nat → Nat) : GrwC (W.alloc (.cells #[] 33)) W.heap.size hi (.slice (some ⟨W.heap.size, 0, none⟩) 0 0) 0 [] p f :=
  ⟨by simpa using World.ownsRow_lit W #[] 0 (Nat.le_refl _) (by unfold maxLen; omega) (by simp), by simp, fun i hi => by omega, fun i j hi => by omega⟩
theorem grw_none (W : World) (B hi : Nat) (p : Nat → Con) (f : Nat → Nat) : GrwC W B hi (.slice none 0 0) 0 [] p f :=
  ⟨⟨by simp, .inl ⟨rfl, rfl⟩⟩, by simp, fun i hi => by omega, fun i j hi => by omega⟩
/-- Such a row is a slice of constraints that a call has made. -/
theorem GrwC.fin (h : GrwC w B hi ov k xs p f) : ∃ A cap, ov = .slice A k cap ∧ FrC w B A k p := by
  rcases h.own.2 with ⟨e, h0⟩ | ⟨g, cap, cur, e, hg, hh, hnc, _, hsz, htk⟩
  · subst h0
    exact ⟨none, 0, e, frc_nil _ _ _ _⟩
  · refine ⟨_, cap, e, f, ⟨.inr ⟨g, cur, rfl, hh, fun i hi => ?_⟩, fun i hi => ?_, h.inj⟩, fun b hb => ?_⟩
    · obtain ⟨Ai, ci, h1, h2, h3⟩ := h.els i hi
      refine ⟨Ai, ci, ?_, ?_, h3.imp id fun x => x.1⟩
      · rw [← htk, List.getElem?_take_of_lt (by omega)] at h1
        simpa using h1
      · rw [← htk, List.getElem?_take_of_lt (by omega)] at h2
        simpa using h2
    · obtain ⟨Ai, ci, _, _, h3⟩ := h.els i hi
      exact h3.imp id fun x => x.2.2.2
    · rcases hb with ⟨_, a, ha, rfl⟩ | ⟨i, hi, hz, rfl⟩
      · cases ha
        exact hg
      · obtain ⟨Ai, ci, _, _, h3⟩ := h.els i hi
        rcases h3 with e | ⟨_, b, _, _⟩
        · exact absurd e hz
        · exact b
set_option maxRecDepth 100000 in
set_option maxHeartbeats 800000 in
/-- The append of one constraint, whose terms lie in a block of their own from hi on. -/
theorem wp_grw1 {o : Oper} {a : Act} {K : Act → World → Prop} {Q : Exit → Act → World → Prop} (s x : Operand)
    (ho : o.op = .call { callee := .builtin .append, args := #[s, x], argTypes := #[23, 23] })
    (h : GrwC W B hi ov k xs p f) (hB : B ≤ hi) (hhi : hi ≤ W.heap.size) (hs : a.eval s = ov) {H : Nat} (hx : a.eval x = .slice (some ⟨H, 0, none⟩) 1 1) {A : Option Addr} {cap : Nat} {T' : TypeId} (hnew : W.heap[H]? = some (.cells #[.slice A (p k).n cap, .int .i64 (p k).bd] T' (0, 0))) (hel : Frs W hi A (p k).n (p k).c (p k).l) (hk : k ≤ 10000)
    (hK : ∀ g cap' w' zs f', GrwC w' B w'.heap.size (.slice (some ⟨g, 0, none⟩) (k + 1) cap') (k + 1) zs p f' → W.grownBy w' ov.ownBlock → K (a.put o.dst (.slice (some ⟨g, 0, none⟩) (k + 1) cap')) w') :
    o.wp Tryz.prog a W K Q := by
  obtain ⟨i0, hi0, hz0, hz1, hz2⟩ := info_parts Tryz.infoCon
  refine wp_append_lies _ s x 23 ho B 33 i0 _ 2 32 Tryz.underlying23 hi0 hz0 hz1 hz2 rfl (by omega) ov k _ hs h.own ⟨H, 0, none⟩ 1 1 [.slice A (p k).n cap, .int .i64 (p k).bd] hx (by rfl)
    (World.news_of_block hnew) (by simp [Value.oneCell']) (by omega) (by unfold maxLen; omega) (by omega) (by omega) W.heap.size rfl ?_
  intro g cap' w' hown hg _ _
  have hkeep : ∀ {G n : Nat} {c l : Nat → Int}, OwnU W G n n c l → OwnU w' G n n c l := fun {G n c l} hu => by
    refine hu.at_ (hg.block G hu.lt ?_)
    rcases h.nil_or with ⟨e, _⟩ | ⟨g0, cap0, cur, e, hh⟩
    · rw [e]; intro h; cases h
    · rw [e]
      intro e2
      cases e2
      obtain ⟨cs, h3, _⟩ := hu
      rw [hh] at h3
      injection h3 with h3
      injection h3 with _ h4 _
      exact absurd h4 (by decide)
  obtain ⟨g1, hg1⟩ : ∃ g1, (p k).n = 0 ∨ (A = some ⟨g1, 0, none⟩ ∧ hi ≤ g1 ∧ OwnU W g1 (p k).n (p k).n (p k).c (p k).l) := by
    rcases hel with e | ⟨G, e, h1, h2⟩
    · exact ⟨0, .inl e⟩
    · exact ⟨G, .inr ⟨e, h1, h2⟩⟩
  refine hK g cap' w' _ (fun i => if i = k then g1 else f i) ⟨hown, by rw [List.length_append, h.len]; simp; omega, fun i hi1 => ?_, fun i j hi1 hj1 hz1 hz2 hne => ?_⟩ hg
  · by_cases e : i = k
    · subst e
      refine ⟨A, cap, ?_, ?_, ?_⟩
      · rw [List.getElem?_append_right (by rw [h.len]; omega), h.len]; simp
      · rw [List.getElem?_append_right (by rw [h.len]; omega), h.len]; simp
      · rcases hg1 with e | ⟨a1, a2, a3⟩
        · exact .inl e
        · refine .inr ⟨by rw [if_pos rfl]; exact a1, by rw [if_pos rfl]; omega, by rw [if_pos rfl]; exact (hkeep a3).lt, by rw [if_pos rfl]; exact hkeep a3⟩
    · obtain ⟨Ai, ci, h1, h2, h3⟩ := h.els i (by omega)
      refine ⟨Ai, ci, ?_, ?_, ?_⟩
      · rw [List.getElem?_append_left (by rw [h.len]; omega)]; exact h1
      · rw [List.getElem?_append_left (by rw [h.len]; omega)]; exact h2
      · simp only [if_neg e]
        rcases h3 with e3 | ⟨a1, a2, a3, a4⟩
        · exact .inl e3
        · exact .inr ⟨a1, a2, (hkeep a4).lt, hkeep a4⟩
  · have hold : ∀ i, i < k → (p i).n ≠ 0 → f i < hi := fun i hi1 hz => by
      obtain ⟨_, _, _, _, h3⟩ := h.els i hi1
      rcases h3 with e | ⟨_, _, c, _⟩
      · exact absurd e hz
      · exact c
    have hnew1 : (p k).n ≠ 0 → hi ≤ g1 := fun hz => by
      rcases hg1 with e | ⟨_, a2, _⟩
      · exact absurd e hz
      · exact a2
    show (if i = k then g1 else f i) ≠ (if j = k then g1 else f j)
    by_cases e : i = k
    · have e2 : j ≠ k := fun e' => hne (by omega)
      rw [if_pos e, if_neg e2]
      have h1 := hold j (by omega) hz2
      have h2 := hnew1 (by rw [← e]; exact hz1)
      omega
    · by_cases e2 : j = k
      · rw [if_pos e2, if_neg e]
        have h1 := hold i (by omega) hz1
        have h2 := hnew1 (by rw [← e2]; exact hz2)
        omega
      · rw [if_neg e, if_neg e2]
        exact h.inj i j (by omega) (by omega) hz1 hz2 hne
end
end Go.Proofs.YtbebdhjhlheboaaGreat

namespace Go.Proofs.YtbebdhjhlheboaaGreat
open Go.ChangeShapes Go.WideShapes Go.ChangeAt Go.RowKit

/-- Block G holds n constraints; the terms of the first k, known, lie in blocks of their own. -/
structure MadC (w : World) (B hi G n k : Nat) (p : Nat → Con) (f : Nat → Nat) : Prop where
  row : ∃ cs : Array Value, w.heap[G]? = some (.cells cs 33 (0, 0)) ∧ cs.size = n * 2 ∧ ∀ i, i < k → ∃ Ai ci, cs[i * 2]? = some (.slice Ai (p i).n ci) ∧ cs[i * 2 + 1]? = some (.int .i64 (p i).bd) ∧ ((p i).n = 0 ∨ (Ai = some ⟨f i, 0, none⟩ ∧ B ≤ f i ∧ f i < hi ∧ OwnU w (f i) (p i).n (p i).n (p i).c (p i).l))
  inj : ∀ i j, i < k → j < k → (p i).n ≠ 0 → (p j).n ≠ 0 → i ≠ j → f i ≠ f j
section
variable {w W w' : World} {B hi hi' G n k : Nat} {p : Nat → Con} {f : Nat → Nat}
theorem MadC.lt (h : MadC w B hi G n k p f) : G < w.heap.size := by
  obtain ⟨cs, hh, _⟩ := h.row
  exact block_lt hh
theorem MadC.cell (h : MadC w B hi G n k p f) {j : Nat} (hj : j < n * 2) : ∃ u, w.cell? ⟨G, j, none⟩ = some u := by
  obtain ⟨cs, hh, h1, h2⟩ := h.row
  exact ⟨cs[j]'(by omega), (cell_of_row w G _ cs _ _ hh).trans (Array.getElem?_eq_getElem (by omega))⟩
theorem MadC.frozen (h : MadC w B hi G n k p f) (j : Nat) : w.frozen? ⟨G, j, none⟩ = false := by
  obtain ⟨cs, hh, h1, h2⟩ := h.row
  simp [World.frozen?, hh]
theorem MadC.below (h : MadC w B hi G n k p f) (hb : Below w.heap.size w W) : MadC W B hi G n k p f := by
  have hlt := h.lt
  obtain ⟨cs, hh, h1, h2⟩ := h.row
  refine ⟨⟨cs, (hb.block G hlt).trans hh, h1, fun i hi0 => ?_⟩, h.inj⟩
  obtain ⟨Ai, ci, a, b, c⟩ := h2 i hi0
  exact ⟨Ai, ci, a, b, c.imp id fun ⟨c1, c2, c3, c4⟩ => ⟨c1, c2, c3, c4.below hb⟩⟩
theorem MadC.next (h : MadC w B hi G n k p f) (hb : Below w.heap.size w W) (hk : k < n) (hB : B ≤ hi) (hhi : hi ≤ w.heap.size) {A : Option Addr} {ci : Nat} (hel : Frs W w.heap.size A (p k).n (p k).c (p k).l) :
    ∃ f', MadC ((W.setCell ⟨G, k * 2, none⟩ (.slice A (p k).n ci)).setCell ⟨G, k * 2 + 1, none⟩ (.int .i64 (p k).bd)) B W.heap.size G n (k + 1) p f' := by
  have htyp : ∀ {g m : Nat} {c l : Nat → Int} {cur : Array Value}, OwnU W g m m c l → W.heap[G]? = some (.cells cur 33 (0, 0)) → g ≠ G := fun hu hh e => by
    obtain ⟨cs, h3, _⟩ := hu
    rw [e, hh] at h3
    injection h3 with h3
    injection h3 with _ h4 _
    exact absurd h4 (by decide)
  obtain ⟨cs, hh, h1, h2⟩ := h.row
  have hW : W.heap[G]? = some (.cells cs 33 (0, 0)) := (hb.block G (block_lt hh)).trans hh
  have hfar : ∀ {g m : Nat} {c l : Nat → Int}, OwnU W g m m c l → OwnU ((W.setCell ⟨G, k * 2, none⟩ (.slice A (p k).n ci)).setCell ⟨G, k * 2 + 1, none⟩ (.int .i64 (p k).bd)) g m m c l := fun hu => (hu.at_ (Below.heap_setCell W ⟨G, k * 2, none⟩ _ _ (htyp hu hW))).at_ (Below.heap_setCell _ ⟨G, k * 2 + 1, none⟩ _ _ (htyp hu hW))
  have hold : ∀ i, i < k → (p i).n ≠ 0 → f i < hi := fun i hi1 hz => by
    obtain ⟨_, _, _, _, h3⟩ := h2 i hi1
    rcases h3 with e | ⟨_, _, c, _⟩
    · exact absurd e hz
    · exact c
  have hws := hb.size
  obtain ⟨g1, hg1⟩ : ∃ g1, (p k).n = 0 ∨ (A = some ⟨g1, 0, none⟩ ∧ w.heap.size ≤ g1 ∧ OwnU W g1 (p k).n (p k).n (p k).c (p k).l) := by
    rcases hel with e | ⟨g, e, h1, h2⟩
    · exact ⟨0, .inl e⟩
    · exact ⟨g, .inr ⟨e, h1, h2⟩⟩
  refine ⟨fun i => if i = k then g1 else f i, ⟨(cs.setIfInBounds (k * 2) (.slice A (p k).n ci)).setIfInBounds (k * 2 + 1) (.int .i64 (p k).bd), ?_, by simp [h1], fun i hi1 => ?_⟩, fun i j hi1 hj1 hz1 hz2 hne => ?_⟩
  · simp [World.setCell, Array.getElem?_modify, hW]
  · simp only [Array.getElem?_setIfInBounds]
    by_cases e : i = k
    · subst e
      refine ⟨A, ci, ?_, ?_, ?_⟩
      · rw [if_neg (by omega), if_pos rfl, if_pos (by omega)]
      · rw [if_pos rfl, if_pos (by simp; omega)]
      · rcases hg1 with e | ⟨a1, a2, a3⟩
        · exact .inl e
        · exact .inr ⟨by rw [if_pos rfl]; exact a1, by rw [if_pos rfl]; omega, by rw [if_pos rfl]; exact a3.lt, by rw [if_pos rfl]; exact hfar a3⟩
    · obtain ⟨Ai, ci', a, b, h3⟩ := h2 i (by omega)
      refine ⟨Ai, ci', ?_, ?_, ?_⟩
      · rw [if_neg (by omega), if_neg (by omega)]; exact a
      · rw [if_neg (by omega), if_neg (by omega)]; exact b
      · simp only [if_neg e]
        rcases h3 with e3 | ⟨a1, a2, a3, a4⟩
        · exact .inl e3
        · exact .inr ⟨a1, a2, by omega, hfar (a4.below hb)⟩
  · have hnew1 : (p k).n ≠ 0 → hi ≤ g1 := fun hz => by
      rcases hg1 with e | ⟨_, a2, _⟩
      · exact absurd e hz
      · omega
    show (if i = k then g1 else f i) ≠ (if j = k then g1 else f j)
    by_cases e : i = k
    · have e2 : j ≠ k := fun e' => hne (by omega)
      rw [if_pos e, if_neg e2]
      have h1 := hold j (by omega) hz2
      have h2 := hnew1 (by rw [← e]; exact hz1)
      omega
    · by_cases e2 : j = k
      · rw [if_pos e2, if_neg e]
        have h1 := hold i (by omega) hz1
        have h2 := hnew1 (by rw [← e2]; exact hz2)
        omega
      · rw [if_neg e, if_neg e2]
        exact h.inj i j (by omega) (by omega) hz1 hz2 hne
theorem MadC.fin (h : MadC w B hi G n n p f) (hG : B ≤ G) : FrC w B (some ⟨G, 0, none⟩) n p := by
  obtain ⟨cs, hh, h1, h2⟩ := h.row
  refine ⟨f, ⟨.inr ⟨G, cs, rfl, hh, fun i hi => ?_⟩, fun i hi => ?_, h.inj⟩, fun b hb => ?_⟩
  · obtain ⟨Ai, ci, a, b, c⟩ := h2 i hi
    exact ⟨Ai, ci, a, b, c.imp id fun x => x.1⟩
  · obtain ⟨Ai, ci, a, b, c⟩ := h2 i hi
    exact c.imp id fun x => x.2.2.2
  · rcases hb with ⟨_, a, ha, rfl⟩ | ⟨i, hi, hz, rfl⟩
    · cases ha
      exact hG
    · obtain ⟨Ai, ci, _, _, h3⟩ := h2 i hi
      rcases h3 with e | ⟨_, b, _, _⟩
      · exact absurd e hz
      · exact b
end
theorem madC_new (w : World) (B hi n : Nat) (p : Nat → Con) (f : Nat → Nat) (cs : Array Value) (h : cs.size = n * 2) : MadC (w.alloc (.cells cs 33)) B hi w.heap.size n 0 p f :=
  ⟨⟨cs, heap_alloc_new _ _, h, fun i hi => absurd hi (by omega)⟩, fun i j hi => absurd hi (by omega)⟩
end Go.Proofs.YtbebdhjhlheboaaGreat

namespace Go.Proofs.YtbebdhjhlheboaaGreat
open Go.ChangeShapes Go.WideShapes Go.ChangeAt Go.RowKit Go.Shelf

/-- The cells of a partial assignment's box, and those of the call's result box, as they are kept. -/
def par12 (B : Nat) (v : Nat → Int) : List (Nat × Nat × Value) := (List.range 12).map fun i => (B, i, .int .i64 (v i))
theorem par12_mem {B : Nat} {v : Nat → Int} {i : Nat} (h : i < 12) : (B, i, Value.int .i64 (v i)) ∈ par12 B v := List.mem_map.2 ⟨i, List.mem_range.2 h, rfl⟩
def fxKs (B : Nat) (v : Nat → Int) : List (Nat × Nat × Value) := (B + 1 + 1, 0, .slice none 0 0) :: (B + 1 + 1, 1, .int .i64 0) :: par12 B v
theorem fxKs_low {B : Nat} {v : Nat → Int} : ∀ x ∈ fxKs B v, x.1 < B + 1 + 1 + 1 := fun x hx => by
  rcases List.mem_cons.1 hx with rfl | hx
  · show B + 1 + 1 < _; omega
  · rcases List.mem_cons.1 hx with rfl | hx
    · show B + 1 + 1 < _; omega
    · obtain ⟨i, _, rfl⟩ := List.mem_map.1 hx
      show B < _; omega

set_option maxRecDepth 100000 in
set_option maxHeartbeats 3200000 in
theorem fixed_any (A : Option Addr) (n cap : Nat) (bd : Int) (c l : Nat → Int) (v : Nat → Int) (w : World) (hn : n ≤ 1048576) (hr : Rd w w.heap.size A n c l) (hval : validB n c l bd = true) (hv : ∀ i, i < 12 → -1 ≤ v i ∧ v i ≤ 1) :
    Calls Tryz.prog 41 #[arrV v, .agg #[.slice A n cap, .int .i64 bd]] w (FxRes w v ⟨n, bd, c, l⟩) := by
  have hbd := vb_bd hval
  have Hval := Lib.hid hval
  have HV := Lib.hid hv
  clear hval hv
  have hfx0 : fxP (fxS c l bd v 0) = bd := if_neg (by show ¬ bd < 0; omega)
  have Hfx0 := Lib.hid hfx0
  clear hfx0
  unfold arrV
  go_enter Tryz.func41, Tryz.ntmps41
  go_wp2
  go_loopw [14] (fun i wr => ∃ k : Nat, k ≤ n ∧ i = .int .i64 k ∧ Out w (w.heap.size + 1 + 1 + 1) ((w.heap.size + 1 + 1 + 1, 1, .int .i64 (fxP (fxS c l bd v k))) :: fxKs w.heap.size v) (pkC (fxR c l v n)) (pkL (fxR c l v n)) (fxR c l v k).length wr) (fun i _ => n - (intOf i).toNat)
  case atStart =>
    refine ⟨0, Nat.zero_le _, rfl, .slice none 0 0, ⟨by go_simp, by go_simp⟩, World.ownsRow_nil _ _ _ _, fun x hx => ?_, by repeat (first | exact Below.refl _ _ | refine bl_alloc ?_ _ | refine Below.drew ?_), by omega⟩
    rw [Hfx0.out] at hx
    rcases List.mem_cons.1 hx with rfl | hx
    · exact ⟨by first | (simp; done) | (simp; omega), by go_simp, by go_simp⟩
    · rcases List.mem_cons.1 hx with rfl | hx
      · exact ⟨by first | (simp; done) | (simp; omega), by go_simp, by go_simp⟩
      · rcases List.mem_cons.1 hx with rfl | hx
        · exact ⟨by first | (simp; done) | (simp; omega), by go_simp, by go_simp⟩
        · obtain ⟨i, hi, rfl⟩ := List.mem_map.1 hx
          have h1 := heap_alloc_new w (.cells (cells12 v) 49)
          have h2 : Cel (w.alloc (.cells (cells12 v) 49)) w.heap.size i (.int .i64 (v i)) := ⟨(cell_of_row _ w.heap.size i _ _ _ h1).trans (cells12_at v (List.mem_range.1 hi)), frozen_row h1 i⟩
          exact ⟨.inl (by show w.heap.size < _; omega), ((h2.below (bl_alloc (Below.refl _ _) _)).below (bl_alloc (Below.refl _ _) _)).below (bl_alloc (Below.refl _ _) _)⟩
  case round =>
    obtain ⟨k, hk, rfl, ov, old⟩ := hrel
    obtain ⟨r0, f0⟩ := old.at_ (j := w.heap.size + 1 + 1) (o := 0) (v := .slice none 0 0) (List.mem_cons_of_mem _ (List.mem_cons_self ..))
    obtain ⟨r1, f1⟩ := old.at_ (j := w.heap.size + 1 + 1) (o := 1) (v := .int .i64 0) (List.mem_cons_of_mem _ (List.mem_cons_of_mem _ (List.mem_cons_self ..)))
    obtain ⟨o1, g1⟩ := old.at_ (j := w.heap.size + 1 + 1 + 1) (o := 1) (v := .int .i64 (fxP (fxS c l bd v k))) (List.mem_cons_self ..)
    obtain ⟨o0, g0⟩ := old.o0
    have hz3 : w.heap.size + 1 + 1 + 1 < wr.heap.size := World.block_lt_of_cell? wr _ o0
    have Old := Lib.hid old
    have hbw := old.bel
    by_cases hlt : k < n
    · have hco := vb_coef Hval.out k hlt
      have hL := Lib.hid (litAt Hval.out hlt)
      have hst := stV_bd hL.out HV.out
      obtain ⟨b, off, rfl, hbl, hc⟩ := (hr.below hbw) (by omega)
      obtain ⟨hc1, hc2⟩ := hc k hlt
      have hkI : (k : Int) < (n : Int) := by omega
      have hkJ : (0 : Int) ≤ (k : Int) := by omega
      have hq2 : w.heap.size + 1 + 1 < wr.heap.size := by omega
      have hq1 : w.heap.size + 1 < wr.heap.size := by omega
      have hq0 : w.heap.size < wr.heap.size := by omega
      have hal : Below wr.heap.size wr (wr.alloc (.cells #[.int .i64 (c k), .int .i64 (l k)] 30)) := bl_alloc (Below.refl _ _) _
      have s0 : (wr.alloc (.cells #[.int .i64 (c k), .int .i64 (l k)] 30)).rangeAt w.heap.size 0 (cl12 v) := range_kc hal (range12 fun i hi => by rw [Nat.zero_add]; exact (old.at_ (List.mem_cons_of_mem _ (List.mem_cons_of_mem _ (List.mem_cons_of_mem _ (par12_mem hi))))).1)
      have S0 := Lib.hid s0
      have OldX := Lib.hid (old.below hal)
      have t0 : (wr.alloc (.cells #[.int .i64 (c k), .int .i64 (l k)] 30)).cell? ⟨wr.heap.size, 0, none⟩ = some (.int .i64 (c k)) := by go_simp
      have t1 : (wr.alloc (.cells #[.int .i64 (c k), .int .i64 (l k)] 30)).cell? ⟨wr.heap.size, 1, none⟩ = some (.int .i64 (l k)) := by go_simp
      have hu := Tryz.underlying49
      have hsz12 : (Tryz.prog.info? 49).map (·.size) = some (cl12 v).length := by kernel_rfl
      have HU := Lib.hid hu
      have HSZ := Lib.hid hsz12
      have T0 := Lib.hid t0
      have T1 := Lib.hid t1
      clear hc hr hbw s0 hu hsz12 old Old o0 o1 g0 g1 r0 r1 f0 f1 t0 t1 hal
      have hcall := fun W => valueOf_any v (l k) W hL.out HV.out
      by_cases he : stV v (l k) = 0
      · have hkp := Lib.hid (fxR_yes (c := c) (l := l) (v := v) (k := k) he)
        have hwk := Lib.hid (fxS_no (c := c) (l := l) (v := v) (bd := bd) (k := k) (by omega))
        obtain ⟨hX, hY⟩ := pk_at (c := c) (l := l) (q := fxQ l v) hlt (decide_eq_true he)
        have HX := Lib.hid (show pkC (fxR c l v n) (fxR c l v k).length = c k from hX)
        have HY := Lib.hid (show pkL (fxR c l v n) (fxR c l v k).length = l k from hY)
        have hkl : (fxR c l v k).length ≤ 1048576 := by have := fxR_le (c := c) (l := l) (v := v) k; omega
        rw [he] at hcall
        have Hcall := Lib.hid hcall
        clear hX hY hst he hcall
        go_upto_region 5 with fail
        refine wp_region_list ?_
        refine wpList_load_mid (by rfl) 49 _ (by rfl) w.heap.size 0 (by rfl) (cl12 v) _ S0.out HU.out (by rfl) HSZ.out ?_
        go_wp2_with fail
        refine (Hcall.out _).mono ?_
        rintro e w2 ⟨rfl, hb⟩
        have OldY := Lib.hid (OldX.out.below hb)
        have t0 := kc hb T0.out
        have t1 := kc hb T1.out
        obtain ⟨o0, g0⟩ := OldY.out.o0
        have hzz : wr.heap.size < w2.heap.size := World.block_lt_of_cell? w2 ⟨wr.heap.size, 0, none⟩ t0
        clear hb T0 T1 OldX S0 Hcall
        go_wp2_with (at_builtin; refine wpList_plain (by rfl) fun K' hK' => ?_; refine wp_appG _ _ (by rfl) OldY.out (by repeat (first | exact Below.refl _ _ | refine bl_alloc ?_ _)) (by rfl) (by rfl) (alloc_eq (by first | assumption | rfl | simp)) HX.out HY.out hkl ?_; intro gg cap1 w3 t0 u0 hout; refine hK' _ _ ?_; clear hK' K')
        go_roundw
        case rel => exact ⟨k + 1, by omega, by go_num, by rw [hkp.out, hwk.out, List.length_append]; exact hout⟩
        case measure => simp [intOf]; omega
      · have hkp := Lib.hid (fxR_no (c := c) (l := l) (v := v) (k := k) he)
        by_cases he1 : stV v (l k) = 1
        · have hrg := fxS_le (c := c) (l := l) (v := v) (bd := bd) (n := k) (fun i hi => vb_coef Hval.out i (by omega))
          have hcp : 0 ≤ fxP (fxS c l bd v k) ∧ fxP (fxS c l bd v k) ≤ 20000 := by unfold fxP; split <;> omega
          have hw64 : wrap64 (fxP (fxS c l bd v k) - c k) = fxP (fxS c l bd v k) - c k := by rw [← IntWalk.i64_left]; exact IntWalk.i64_in _ (by omega)
          have hmx : (if fxP (fxS c l bd v k) - c k < 0 then 0 else fxP (fxS c l bd v k) - c k) = fxP (fxS c l bd v (k + 1)) := by
            rw [fxS_yes he1, ← fxP_step (b := fxS c l bd v k) (x := c k) (by omega)]
          have Hmx := Lib.hid hmx
          rw [he1] at hcall
          have Hcall := Lib.hid hcall
          clear hrg hst he he1 hcall hmx
          go_upto_region 5 with fail
          refine wp_region_list ?_
          refine wpList_load_mid (by rfl) 49 _ (by rfl) w.heap.size 0 (by rfl) (cl12 v) _ S0.out HU.out (by rfl) HSZ.out ?_
          go_wp2_with fail
          refine (Hcall.out _).mono ?_
          rintro e w2 ⟨rfl, hb⟩
          have OldY := Lib.hid (OldX.out.below hb)
          have t0 := kc hb T0.out
          have t1 := kc hb T1.out
          obtain ⟨o1, g1⟩ := OldY.out.at_ (j := w.heap.size + 1 + 1 + 1) (o := 1) (v := .int .i64 (fxP (fxS c l bd v k))) (List.mem_cons_self ..)
          clear hb T0 T1 OldX S0 Hcall
          go_wp2_with fail
          go_roundw
          case rel =>
            refine ⟨k + 1, by omega, by go_num, ?_⟩
            rw [Hmx.out, hkp.out]
            exact ⟨_, OldY.out.setB fxKs_low⟩
          case measure => simp [intOf]; omega
        · have hwk := Lib.hid (fxS_no (c := c) (l := l) (v := v) (bd := bd) (k := k) he1)
          have h2 : stV v (l k) = -1 := by omega
          rw [h2] at hcall
          have Hcall := Lib.hid hcall
          clear hst he he1 hcall h2
          go_upto_region 5 with fail
          refine wp_region_list ?_
          refine wpList_load_mid (by rfl) 49 _ (by rfl) w.heap.size 0 (by rfl) (cl12 v) _ S0.out HU.out (by rfl) HSZ.out ?_
          go_wp2_with fail
          refine (Hcall.out _).mono ?_
          rintro e w2 ⟨rfl, hb⟩
          have OldY := Lib.hid (OldX.out.below hb)
          clear hb T0 T1 OldX S0 Hcall
          go_wp2
          go_roundw
          case rel => exact ⟨k + 1, by omega, by go_num, by rw [hwk.out, hkp.out]; exact ⟨_, OldY.out⟩⟩
          case measure => simp [intOf]; omega
    · have e : k = n := by omega
      subst e
      obtain ⟨A', cap', rfl, hF⟩ := Old.out.frs
      have HF := Lib.hid hF
      have HB := Lib.hid hbw
      have hq1 : w.heap.size + 1 + 1 < wr.heap.size := by omega
      clear hF hbw hr old
      go_wp2
      refine bodyPost_ret (v := .agg #[.slice A' (fxR c l v k).length cap', .int .i64 (fxP (fxS c l bd v k))]) (by simp [results, Tryz.results41, go_sem, r0, r1]) rfl ?_
      refine ⟨A', cap', rfl, ?_, ?_⟩
      · exact ((HF.out.far (by simp) (by first | (simp; done) | (simp; omega)) _).far (by simp) (by first | (simp; done) | (simp; omega)) _).more (by omega)
      · exact (HB.out.setCell (by first | (simp; done) | (simp; omega)) _).setCell (by first | (simp; done) | (simp; omega)) _

set_option linter.unusedVariables false in
set_option maxRecDepth 100000 in
set_option maxHeartbeats 3200000 in
theorem eachChanged_any (f : Nat) (R : Value) (A : Option Addr) (n cap : Nat) (p q : Nat → Con) (w : World) (hn : n ≤ 400) (hr : RdP w w.heap.size A n p)
    (ef : ∀ args w, (callFunc f args).run Tryz.prog w = .ok (.enter f args) w)
    (hf : ∀ (k : Nat) (Ai : Option Addr) (ci : Nat) (X : World), k < n → Rd X X.heap.size Ai (p k).n (p k).c (p k).l → Calls Tryz.prog f #[R, .agg #[.slice Ai (p k).n ci, .int .i64 (p k).bd]] X fun e X' => ∃ A' c', e = .returned (.agg #[.slice A' (q k).n c', .int .i64 (q k).bd]) ∧ Frs X' X.heap.size A' (q k).n (q k).c (q k).l ∧ Below X.heap.size X X') :
    Calls Tryz.prog 40 #[.slice A n cap, .func (.func f) #[R] #[]] w fun e w' => ∃ G, e = .returned (.slice (some ⟨G, 0, none⟩) n n) ∧ w.heap.size ≤ G ∧ FrC w' w.heap.size (some ⟨G, 0, none⟩) n q ∧ Below w.heap.size w w' := by
  obtain ⟨i0, hi, hz0, hz1, hz2⟩ := info_parts Tryz.infoCon
  have hmk := fun W => run_make (P := Tryz.prog) W 23 33 i0 _ Tryz.underlying23 hi hz0 .i64 .i64 (n : Int) n (by omega) (by omega) (by rw [hz2]; omega) (by omega)
  rw [hz1] at hmk
  have Hf := Lib.hid hf
  have HR := Lib.hid hr
  clear hi hz0 hz1 hz2 hf hr
  go_enter Tryz.func40, Tryz.ntmps40
  go_wp2
  go_loopw [13] (fun i wr => ∃ (k hi : Nat) (f : Nat → Nat), k ≤ n ∧ i = .int .i64 k ∧ MadC wr w.heap.size hi w.heap.size n k q f ∧ w.heap.size ≤ hi ∧ hi ≤ wr.heap.size ∧ Below w.heap.size w wr) (fun i _ => n - (intOf i).toNat)
  case atStart => exact ⟨0, w.heap.size, fun _ => 0, Nat.zero_le _, rfl, madC_new _ _ _ _ _ _ _ (by simp [size_madeCells]), Nat.le_refl _, by simp, bl_alloc (Below.refl _ _) _⟩
  case round =>
    obtain ⟨k, hi, f, hk, rfl, hm, h1, h2, hb⟩ := hrel
    have HM := Lib.hid hm
    have HB := Lib.hid hb
    by_cases hlt : k < n
    · obtain ⟨b, off, rfl, hbl, hc⟩ := (HR.out.below hb) (by omega)
      obtain ⟨Ai, ci, hc1, hc2, hrq⟩ := hc k hlt
      have HRQ := Lib.hid (hrq.more hb.size)
      have hzw : w.heap.size < wr.heap.size := hm.lt
      have hkI : (k : Int) < (n : Int) := by omega
      have hkJ : (0 : Int) ≤ (k : Int) := by omega
      have HAl := Lib.hid (bl_alloc (Below.refl wr.heap.size wr) (.cells #[.slice Ai (p k).n ci, .int .i64 (p k).bd] 33))
      clear hc hrq hm hb hmk
      go_wp2_with fail
      refine (Hf.out k Ai ci _ hlt (HRQ.out.later HAl.out)).mono ?_
      rintro e w2 ⟨A2, c2, rfl, hF, hb2⟩
      have HB2 := Lib.hid (bl_trans HAl.out hb2)
      have HM2 := Lib.hid (HM.out.below HB2.out)
      obtain ⟨y1, hy1⟩ := HM2.out.cell (j := k * 2) (by omega)
      obtain ⟨y2, hy2⟩ := HM2.out.cell (j := k * 2 + 1) (by omega)
      have hf1 := HM2.out.frozen (k * 2)
      have hf2 := HM2.out.frozen (k * 2 + 1)
      obtain ⟨f', hn1⟩ := HM.out.next (ci := c2) HB2.out hlt h1 h2 (hF.more (by simp))
      have HN := Lib.hid hn1
      have HB3 := Lib.hid (((bl_trans HB.out HB2.out).setCell (p := ⟨w.heap.size, k * 2, none⟩) (Nat.le_refl _) (.slice A2 (q k).n c2)).setCell (p := ⟨w.heap.size, k * 2 + 1, none⟩) (Nat.le_refl _) (.int .i64 (q k).bd))
      have hs2 : w.heap.size ≤ w2.heap.size := Nat.le_trans (Nat.le_trans h1 h2) HB2.out.size
      have hs3 : w2.heap.size ≤ ((w2.setCell ⟨w.heap.size, k * 2, none⟩ (.slice A2 (q k).n c2)).setCell ⟨w.heap.size, k * 2 + 1, none⟩ (.int .i64 (q k).bd)).heap.size := by simp [World.setCell]
      have HS3 := Lib.hid hs3
      clear hF hb2 hn1 HM2 HM HB HB2 HAl hs3 hc1 hc2
      go_wp2
      go_roundw
      case rel => exact ⟨k + 1, w2.heap.size, f', by omega, by go_num, HN.out, hs2, HS3.out, HB3.out⟩
      case measure => simp [intOf]; omega
    · have e : k = n := by omega
      subst e
      have HF := Lib.hid (HM.out.fin (Nat.le_refl _))
      clear hm hb hmk
      go_wp2
      go_ret
      exact ⟨_, rfl, Nat.le_refl _, HF.out, HB.out⟩
end Go.Proofs.YtbebdhjhlheboaaGreat

namespace Go.Proofs.YtbebdhjhlheboaaGreat
open Go.ChangeShapes Go.WideShapes Go.ChangeAt Go.RowKit

/-- What FixPartial leaves. -/
def FixRes (w : World) (N : Nat) (ok : Bool) (q : Nat → Con) (e : Ending) (w' : World) : Prop :=
  ∃ A cap, e = .returned (.tuple #[.slice A N cap, .bool ok]) ∧ FrC w' w.heap.size A N q ∧ Below w.heap.size w w'
theorem fixRes_no {w w' : World} {N : Nat} {ok : Bool} {q : Nat → Con} {A : Option Addr} {cap : Nat} (h : ok = false ∧ N = 0) (hb : Below w.heap.size w w') : FixRes w N ok q (.returned (.tuple #[.slice A 0 cap, .bool false])) w' :=
  ⟨A, cap, by rw [h.1, h.2], by rw [h.2]; exact frc_nil _ _ _ _, hb⟩
theorem fixRes_yes {w w' : World} {N n : Nat} {ok : Bool} {q : Nat → Con} {A : Option Addr} {cap : Nat} (h : ok = true ∧ N = n) (hF : FrC w' w.heap.size A n q) (hb : Below w.heap.size w w') : FixRes w N ok q (.returned (.tuple #[.slice A n cap, .bool true])) w' :=
  ⟨A, cap, by rw [h.1, h.2], by rw [h.2]; exact hF, hb⟩

set_option linter.unusedVariables false in
set_option maxRecDepth 100000 in
set_option maxHeartbeats 3200000 in
theorem specFix_any (A Av : Option Addr) (n cap nv capv : Nat) (p : Nat → Con) (v : Nat → Int) (w : World) (hn : n ≤ 1048576) (hn' : ∀ i, i < n → (p i).n ≤ 1048576) (hnv : nv ≤ 1048576) (hr : RdP w w.heap.size A n p) (hrv : RdI w w.heap.size Av nv v) :
    Calls Tryz.prog 23 #[.slice A n cap, .slice Av nv capv] w (FixRes w (fixN n p nv v) (fixOk n p nv v) (fixK p v)) := by
  have Hpr := Lib.hid (specProblem_any A n cap p w hn hn' hr)
  cases hv : probB n p with
  | false =>
    have Hfin := Lib.hid (fix_no (m := nv) (v := v) (.inl hv))
    rw [hv] at Hpr
    clear hv hr hn'
    go_enter Tryz.func23, Tryz.ntmps23
    go_wp2_with fail
    refine Hpr.out.mono ?_
    rintro e w1 ⟨rfl, hb⟩
    have HB1 := Lib.hid hb
    clear hb
    go_wp2
    go_ret2
    exact fixRes_no Hfin.out (bl_alloc HB1.out _)
  | true =>
    rw [hv] at Hpr
    have hn4 := prob_400 hv
    have HV := Lib.hid (prob_V hv)
    cases hkp : pvB nv v with
    | false =>
      have Hfin := Lib.hid (fix_no (n := n) (p := p) (.inr hkp))
      have Hkp := Lib.hid hkp
      clear hv hr hn' hkp
      go_enter Tryz.func23, Tryz.ntmps23
      go_wp2_with fail
      refine Hpr.out.mono ?_
      rintro e w1 ⟨rfl, hb⟩
      have HB1 := Lib.hid hb
      clear hb
      go_wp2_with fail
      refine (specPartial_any _ _ _ v _ hnv (hrv.later HB1.out)).mono ?_
      rintro e w2 ⟨rfl, hw⟩
      replace hw := hw.symm
      subst hw
      rw [Hkp.out]
      go_wp2
      go_ret2
      exact fixRes_no Hfin.out (bl_alloc HB1.out _)
    | true =>
      obtain ⟨rfl, hvv⟩ := pvB_iff.1 hkp
      have Hvv := Lib.hid hvv
      have Hfin := Lib.hid (fix_yes hv hkp)
      have Hkp := Lib.hid hkp
      have HN := Lib.hid hn'
      have HR := Lib.hid hr
      have HRv := Lib.hid hrv
      clear hv hr hn' hkp hrv hvv
      go_enter Tryz.func23, Tryz.ntmps23
      go_wp2_with fail
      refine Hpr.out.mono ?_
      rintro e w1 ⟨rfl, hb⟩
      have HB1 := Lib.hid hb
      clear hb
      go_wp2_with fail
      refine (specPartial_any _ _ _ v _ hnv (HRv.out.later HB1.out)).mono ?_
      rintro e w2 ⟨rfl, hw⟩
      rw [Hkp.out]
      replace hw := hw.symm
      subst hw
      have HB2 := HB1
      have HG0 := Lib.hid (grw_lit w1 w1.heap.size (fixK p v) (fun _ => 0))
      go_wp2
      go_loopw [6, 7] (fun ov i wr => ∃ (k hi : Nat) (xs : List Value) (f : Nat → Nat), k ≤ n ∧ i = .int .i64 k ∧ GrwC wr w1.heap.size hi ov k xs (fixK p v) f ∧ w1.heap.size ≤ hi ∧ hi ≤ wr.heap.size ∧ Below w.heap.size w wr) (fun _ i _ => n - (intOf i).toNat)
      case atStart => exact ⟨0, w1.heap.size, [], fun _ => 0, Nat.zero_le _, rfl, HG0.out, Nat.le_refl _, by simp, bl_alloc HB2.out _⟩
      case round =>
        obtain ⟨k, hi, xs, f, hk, rfl, hg, h1, h2, hb⟩ := hrel
        have HG := Lib.hid hg
        have HB := Lib.hid hb
        clear hg hb HG0
        by_cases hlt : k < n
        · obtain ⟨b, off, rfl, _, hc⟩ := (HR.out.later HB.out) (by omega)
          obtain ⟨Ai, ci, hx0, hx1, hrq⟩ := hc k hlt
          have hq := HN.out k hlt
          have hvk := allV_at HV.out hlt
          have HRQ := Lib.hid hrq
          clear hc hrq
          go_wp2_with fail
          refine (l13Fix_any Ai _ _ ci _ _ _ _ v _ hq HRQ.out (HRv.out.later HB.out) hvk Hvv.out).mono ?_
          rintro e w3 ⟨A1, cap1, rfl, hF, hb1⟩
          have hF1 : Frs w3 wr.heap.size A1 (fixK p v k).n (fixK p v k).c (fixK p v k).l := hF
          have e1 : (fxCon v ⟨(p k).n, (p k).bd, (p k).c, (p k).l⟩) = fixK p v k := rfl
          rw [e1]
          clear e1 hF hvk
          have HAl := Lib.hid (bl_alloc (Below.refl w3.heap.size w3) (.cells #[.slice A1 (fixK p v k).n cap1, .int .i64 (fixK p v k).bd] 33))
          have HG1 := Lib.hid ((HG.out.below hb1).below HAl.out)
          have HF1 := Lib.hid ((hF1.below HAl.out).more h2)
          have HB1 := Lib.hid (bl_trans (bl_trans HB.out hb1) HAl.out)
          have hs1 : hi ≤ (w3.alloc (.cells #[.slice A1 (fixK p v k).n cap1, .int .i64 (fixK p v k).bd] 33)).heap.size := Nat.le_trans (Nat.le_trans h2 hb1.size) HAl.out.size
          have HS1 := Lib.hid hs1
          clear hF1 hb1 hs1 HG HB hx0 hx1 HRQ
          go_wp2_with (at_builtin; refine wpList_plain (by rfl) fun K' hK' => ?_; refine wp_grw1 _ _ (by rfl) HG1.out h1 HS1.out (by rfl) (by rfl) (heap_alloc_new _ _) HF1.out (by omega) ?_; intro gg cap2 w4 zs f4 hg4 hgr4; have HG4 := Lib.hid hg4; have HB4 := Lib.hid (HB1.out.grown hgr4 HB1.out.size (fun j e => Nat.le_trans HB2.out.size (HG1.out.lt j e).1)); have HZ4 := Lib.hid hgr4.size; clear hg4 hgr4; refine hK' _ _ ?_; clear hK' K')
          go_roundw
          case rel => exact ⟨k + 1, _, zs, f4, by omega, by go_num, HG4.out, Nat.le_trans h1 (Nat.le_trans HS1.out (by exact HZ4.out)), Nat.le_refl _, HB4.out⟩
          case measure => simp [intOf]; omega
        · have e : k = n := by omega
          subst e
          obtain ⟨A1, cap1, rfl, hF⟩ := HG.out.fin
          have HF := Lib.hid (hF.more HB2.out.size)
          clear hF HG
          go_wp2
          go_ret2
          exact fixRes_yes Hfin.out HF.out HB.out
end Go.Proofs.YtbebdhjhlheboaaGreat

namespace Go.Proofs.YtbebdhjhlheboaaGreat
open Go.ChangeShapes Go.WideShapes Go.ChangeAt Go.RowKit Go.Shelf

set_option linter.unusedVariables false in
set_option maxRecDepth 100000 in
set_option maxHeartbeats 3200000 in
theorem implFix_any (A Av : Option Addr) (n cap nv capv : Nat) (p : Nat → Con) (v : Nat → Int) (w : World) (hn : n ≤ 1048576) (hn' : ∀ i, i < n → (p i).n ≤ 1048576) (hnv : nv ≤ 1048576) (hr : RdP w w.heap.size A n p) (hrv : RdI w w.heap.size Av nv v) :
    Calls Tryz.prog 20 #[.slice A n cap, .slice Av nv capv] w (FixRes w (fixN n p nv v) (fixOk n p nv v) (fixK p v)) := by
  have Hpr := Lib.hid (implProblem_any A n cap p w hn hn' hr)
  cases hv : probB n p with
  | false =>
    have Hfin := Lib.hid (fix_no (m := nv) (v := v) (.inl hv))
    rw [hv] at Hpr
    clear hv hr hn'
    go_enter Tryz.func20, Tryz.ntmps20
    go_wp2_with fail
    refine Hpr.out.mono ?_
    rintro e w1 ⟨rfl, hb⟩
    have HB1 := Lib.hid hb
    clear hb
    go_wp2
    go_ret2
    exact fixRes_no Hfin.out HB1.out
  | true =>
    rw [hv] at Hpr
    have hn4 := prob_400 hv
    have HV := Lib.hid (prob_V hv)
    cases hkp : pvB nv v with
    | false =>
      have Hfin := Lib.hid (fix_no (n := n) (p := p) (.inr hkp))
      have Hkp := Lib.hid hkp
      clear hv hr hn' hkp
      go_enter Tryz.func20, Tryz.ntmps20
      go_wp2_with fail
      refine Hpr.out.mono ?_
      rintro e w1 ⟨rfl, hb⟩
      have HB1 := Lib.hid hb
      clear hb
      go_wp2_with fail
      refine (implPartial_any _ _ _ v _ hnv (hrv.later HB1.out)).mono ?_
      rintro e w2 ⟨rfl, hw⟩
      replace hw := hw.symm
      subst hw
      rw [Hkp.out]
      go_wp2
      go_ret2
      exact fixRes_no Hfin.out HB1.out
    | true =>
      obtain ⟨rfl, hvv⟩ := pvB_iff.1 hkp
      have Hvv := Lib.hid hvv
      have Hfin := Lib.hid (fix_yes hv hkp)
      have Hkp := Lib.hid hkp
      have HN := Lib.hid hn'
      have HR := Lib.hid hr
      clear hv hr hn' hkp hvv
      go_enter Tryz.func20, Tryz.ntmps20
      go_wp2_with fail
      refine Hpr.out.mono ?_
      rintro e w1 ⟨rfl, hb⟩
      have HB1 := Lib.hid hb
      clear hb
      go_wp2_with fail
      refine (implPartial_any _ _ _ v _ hnv (hrv.later HB1.out)).mono ?_
      rintro e w2 ⟨rfl, hw⟩
      rw [Hkp.out]
      replace hw := hw.symm
      subst hw
      obtain ⟨b, off, rfl, hbl, hc⟩ := (hrv.later HB1.out) (by omega)
      have c0 : w1.cell? ⟨b, off, none⟩ = some (.int .i64 (v 0)) := by simpa using hc 0 (by omega)
      have c1 : w1.cell? ⟨b, off + 1, none⟩ = some (.int .i64 (v 1)) := hc 1 (by omega)
      have c2 : w1.cell? ⟨b, off + 2, none⟩ = some (.int .i64 (v 2)) := hc 2 (by omega)
      have c3 : w1.cell? ⟨b, off + 3, none⟩ = some (.int .i64 (v 3)) := hc 3 (by omega)
      have c4 : w1.cell? ⟨b, off + 4, none⟩ = some (.int .i64 (v 4)) := hc 4 (by omega)
      have c5 : w1.cell? ⟨b, off + 5, none⟩ = some (.int .i64 (v 5)) := hc 5 (by omega)
      have c6 : w1.cell? ⟨b, off + 6, none⟩ = some (.int .i64 (v 6)) := hc 6 (by omega)
      have c7 : w1.cell? ⟨b, off + 7, none⟩ = some (.int .i64 (v 7)) := hc 7 (by omega)
      have c8 : w1.cell? ⟨b, off + 8, none⟩ = some (.int .i64 (v 8)) := hc 8 (by omega)
      have c9 : w1.cell? ⟨b, off + 9, none⟩ = some (.int .i64 (v 9)) := hc 9 (by omega)
      have c10 : w1.cell? ⟨b, off + 10, none⟩ = some (.int .i64 (v 10)) := hc 10 (by omega)
      have c11 : w1.cell? ⟨b, off + 11, none⟩ = some (.int .i64 (v 11)) := hc 11 (by omega)
      have hat : ∀ W, (Instr.arrayAt 49 (.slice (some ⟨b, off, none⟩) 12 capv)).run Tryz.prog W = .ok (.pointer (some ⟨b, off, none⟩)) W := fun W => run_arrayAt W 49 _ 12 _ 12 capv Tryz.underlying49 (Nat.le_refl _)
      have HEc := Lib.hid (eachChanged_any 41 (arrV v) A n cap p (fixK p v) w1 hn4 (HR.out.later HB1.out)
        (enters_of Tryz.func41 (by kernel_rfl) rfl)
        (fun k Ai ci X hk hrd => fixed_any Ai (p k).n ci (p k).bd (p k).c (p k).l v X (HN.out k hk) hrd (allV_at HV.out hk) Hvv.out))
      unfold arrV cells12 at HEc
      clear hc hrv
      go_wp2_with fail
      refine HEc.out.mono ?_
      rintro e w3 ⟨G, rfl, hG, hF, hb⟩
      have HF := Lib.hid (hF.more HB1.out.size)
      have HB3 := Lib.hid (bl_trans HB1.out hb)
      clear hF hb HEc c0 c1 c2 c3 c4 c5 c6 c7 c8 c9 c10 c11
      go_wp2
      go_ret2
      exact fixRes_yes Hfin.out HF.out HB3.out
end Go.Proofs.YtbebdhjhlheboaaGreat

namespace Go.Proofs.YtbebdhjhlheboaaGreat
open Go.ChangeShapes Go.WideShapes Go.ChangeAt Go.RowKit

/-- Values with those of a partial assignment put in. -/
def inV (u : Nat → Bool) (v : Nat → Int) (i : Nat) : Bool := if v i = 0 then u i else decide (0 < v i)
section
variable {u : Nat → Bool} {v c l : Nat → Int} {bd x : Int} {n k : Nat}
theorem st_free (h : stV v x = 0) : trueP (inV u v) x = trueP u x := by
  unfold stV at h
  unfold trueP
  split
  · rename_i h1
    rw [if_pos h1] at h
    exact if_pos h
  · rename_i h1
    rw [if_neg h1] at h
    rw [show inV u v (-x - 1).toNat = u (-x - 1).toNat from if_pos (by omega)]
theorem st_true (h : stV v x = 1) : trueP (inV u v) x = true := by
  unfold stV at h
  unfold trueP
  split
  · rename_i h1
    rw [if_pos h1] at h
    unfold inV
    rw [h]
    rfl
  · rename_i h1
    rw [if_neg h1] at h
    unfold inV
    rw [show v (-x - 1).toNat = -1 by omega]
    rfl
theorem st_false (h : stV v x = -1) : trueP (inV u v) x = false := by
  unfold stV at h
  unfold trueP
  split
  · rename_i h1
    rw [if_pos h1] at h
    unfold inV
    rw [h]
    rfl
  · rename_i h1
    rw [if_neg h1] at h
    unfold inV
    rw [show v (-x - 1).toNat = 1 by omega]
    rfl
/-- The sum over rows that are picked. -/
theorem sB_app {R : List (Int × Int)} {y : Int × Int} {P : Int → Bool} : sB (pkC (R ++ [y])) (pkL (R ++ [y])) P (R ++ [y]).length = sB (pkC R) (pkL R) P R.length + if P y.2 = true then y.1 else 0 := by
  have h1 : ∀ m, m ≤ R.length → sB (pkC (R ++ [y])) (pkL (R ++ [y])) P m = sB (pkC R) (pkL R) P m := by
    intro m
    induction m with
    | zero => intro _; rfl
    | succ m ih =>
      intro hm
      obtain ⟨a1, a2⟩ := pk_append (R := R) (x := y) (i := m) (by omega)
      rw [sB_suc, sB_suc, ih (by omega), a1, a2]
  obtain ⟨e1, e2⟩ := pk_last R y
  rw [List.length_append]
  show sB _ _ P (R.length + 1) = _
  rw [sB_suc, h1 _ (Nat.le_refl _), e1, e2]
  split <;> omega
theorem fix_sum (hst : ∀ i, i < n → -1 ≤ stV v (l i) ∧ stV v (l i) ≤ 1) : ∀ k, k ≤ n → sB c l (trueP (inV u v)) k + fxS c l bd v k = sB (pkC (fxR c l v k)) (pkL (fxR c l v k)) (trueP u) (fxR c l v k).length + bd := by
  intro k
  induction k with
  | zero => intro _; rfl
  | succ k ih =>
    intro hk
    have h0 := ih (by omega)
    obtain ⟨a, b⟩ := hst k (by omega)
    rcases (show stV v (l k) = 0 ∨ stV v (l k) = 1 ∨ stV v (l k) = -1 by omega) with e | e | e
    · rw [fxR_yes e, fxS_no (by omega), sB_app]
      have e1 := st_free (u := u) e
      rw [sB_suc, e1]
      dsimp only
      split <;> omega
    · rw [fxR_no (by omega), fxS_yes e, sB_yes (st_true e)]
      omega
    · rw [fxR_no (by omega), fxS_no (by omega), sB_no (st_false e)]
      exact h0
end
theorem pk_coef {c l : Nat → Int} {q : Nat → Bool} {n : Nat} (h : ∀ i, i < n → 1 ≤ c i ∧ c i ≤ 1000) : ∀ i, i < (pkR c l q n).length → 1 ≤ pkC (pkR c l q n) i ∧ pkC (pkR c l q n) i ≤ 1000 := fun i hi => by
  obtain ⟨j, hj, _, ej⟩ := pk_from (c := c) (l := l) (q := q) (n := n) ((pkR c l q n).getD i (0, 0)) (by
    rw [List.getD_eq_getElem?_getD, List.getElem?_eq_getElem hi]
    exact List.getElem_mem _)
  have e : pkC (pkR c l q n) i = c j := by unfold pkC; rw [ej]
  rw [e]
  exact h j hj
theorem fix_eval {x : Con} {v : Nat → Int} (u : Nat → Bool) (h : validB x.n x.c x.l x.bd = true) (hv : ∀ i, i < 12 → -1 ≤ v i ∧ v i ≤ 1) : evalV (fxCon v x).n (fxCon v x).c (fxCon v x).l (fxCon v x).bd 12 u = evalV x.n x.c x.l x.bd 12 (inV u v) := by
  have h12 := valid_le12 h
  have hk := fxCon_valid (v := v) h
  have hk12 := valid_le12 hk
  have e1 : evW x.c x.l (inV u v) x.n = sB x.c x.l (trueP (inV u v)) x.n := sumW_sB (by omega) (coef_of h)
  have e2 : evW (fxCon v x).c (fxCon v x).l u (fxCon v x).n = sB (fxCon v x).c (fxCon v x).l (trueP u) (fxCon v x).n := sumW_sB (by omega) (coef_of hk)
  rw [evalV_yes h, evalV_yes hk, e1, e2]
  have h3 := fix_sum (u := u) (c := x.c) (l := x.l) (bd := x.bd) (v := v) (n := x.n) (fun i hi => stV_bd (litAt h hi) hv) x.n (Nat.le_refl _)
  have h4 : 0 ≤ sB (fxCon v x).c (fxCon v x).l (trueP u) (fxCon v x).n := (sB_le (coef_of hk)).1
  have h5 : sB (fxCon v x).c (fxCon v x).l (trueP u) (fxCon v x).n = sB (pkC (fxR x.c x.l v x.n)) (pkL (fxR x.c x.l v x.n)) (trueP u) (fxR x.c x.l v x.n).length := rfl
  have h6 : (fxCon v x).bd = fxP (fxS x.c x.l x.bd v x.n) := rfl
  rw [h6]
  rw [h5] at h4 ⊢
  unfold fxP
  apply decide_eq_decide.2
  split <;> omega
theorem fix_allE {n : Nat} {p : Nat → Con} {v : Nat → Int} (u : Nat → Bool) (h : allV p n = true) (hv : ∀ i, i < 12 → -1 ≤ v i ∧ v i ≤ 1) : allE (fixK p v) u n = allE p (inV u v) n := by
  induction n with
  | zero => rfl
  | succ n ih =>
    unfold allE
    have h2 : validB (p n).n (p n).c (p n).l (p n).bd = true := allV_at h (Nat.lt_succ_self n)
    have h1 : allV p n = true := by
      unfold allV at h
      rw [Bool.and_eq_true] at h
      exact h.1
    rw [ih h1]
    congr 1
    exact fix_eval u h2 hv
theorem fix_prob {n m : Nat} {p : Nat → Con} {v : Nat → Int} (h : fixOk n p m v = true) : probB n (fixK p v) = true := by
  obtain ⟨h1, h2⟩ := fix_ok h
  have h3 := prob_V h1
  have : ∀ k, k ≤ n → allV (fixK p v) k = true := by
    intro k
    induction k with
    | zero => intro _; rfl
    | succ k ih =>
      intro hk
      unfold allV
      rw [ih (by omega), Bool.true_and]
      exact fxCon_valid (allV_at h3 (show k < n by omega))
  unfold probB
  rw [this n (Nat.le_refl _), Bool.true_and]
  exact decide_eq_true (prob_400 h1)
theorem inV_twice (u : Nat → Bool) (v : Nat → Int) : inV (inV u v) v = inV u v := funext fun i => by
  unfold inV
  split <;> rfl
end Go.Proofs.YtbebdhjhlheboaaGreat

