/- Cubes: which lists of ints are variables, which are literals of ascending variables (no claim of its own). Conditions: as each theorem states. · The cubes of some variables, by their numbers (no claim of its own). Conditions: as each theorem states. · Lists of ints that a call has made: marked, asked (no claim of its own). Conditions: as each theorem states. · Lists of ints that a call builds one by one, with what they say; their marks (no claim of its own). Conditions: as each theorem states. · Cubes: the tests of both sides (no claim of its own). Conditions: as each theorem states. · slices.Clone at ints, of any length (no claim of its own). Conditions: as each theorem states. · A region that draws its order, by an invariant over what has run (no claim of its own). Conditions: as each theorem states. · A region that draws its order, operation by operation (no claim of its own). Conditions: as each theorem states. · A region that draws its order, operation by operation; edges that do not bind may point ahead (no claim of its own). Conditions: as each theorem states. · SplitCubes: the reference's side (no claim of its own). Conditions: as each theorem states. · SplitCubes: the program's side (no claim of its own). Conditions: as each theorem states. · Cubes: whether all literals of one are true, on both sides (no claim of its own). Conditions: as each theorem states. · SplitCubes: the program's side, whole (no claim of its own). Conditions: as each theorem states. · SplitCubes: the reference's side, whole (no claim of its own). Conditions: as each theorem states. · A problem under a cube: what both sides hand back; the reference's side (no claim of its own). Conditions: as each theorem states. · Copies of a slice of constraints, terms and all (no claim of its own). Conditions: as each theorem states. · A problem under a cube: the program's side (no claim of its own). Conditions: as each theorem states. · Which values satisfy a problem under a cube (no claim of its own). Conditions: as each theorem states. · Equal slices of ints compare equal in the laws (no claim of its own). Conditions: as each theorem states. · Of the cubes of some variables exactly one holds; the laws' comparison of lists (no claim of its own). Conditions: as each theorem states. -/
import Derived.Test.YtnfkhakgikbbeaaGreatValidB
import Derived.Test.YtnfkhakgikbbeaaGreatProB
import Derived.Test.YtnfkhakgikbbeaaGreatIntR
import Derived.Test.YtnfkhakgikbbeaaGreatMdlA
import Derived.Test.YtnfkhakgikbbeaaGreatMrkR
import Derived.Test.YtnfkhakgikbbeaaGreatOnlS
import Derived.Deep.AppendLies
import Derived.Maps.AppendAt
import Derived.Test.YtnfkhakgikbbeaaGreatClnX
import Derived.Test.YtnfkhakgikbbeaaGreatBaseC
import Derived.RegionTactic
import Derived.Deep.Cut
import Derived.Test.YtnfkhakgikbbeaaGreatEvaA
import Derived.Test.YtnfkhakgikbbeaaGreatSubM
import Derived.Test.YtnfkhakgikbbeaaGreatCpyC
import Derived.Test.YtnfkhakgikbbeaaGreatMkCs
import Derived.Test.YtnfkhakgikbbeaaGreatDsjZ
import Derived.Test.YtnfkhakgikbbeaaGreatSatP
import Derived.Test.YtnfkhakgikbbeaaGreatIntA
namespace Go.Proofs.YtnfkhakgikbbeaaGreat
open Go.ChangeShapes Go.WideShapes Go.ChangeAt Go.RowKit

/-- The number ahead of number k, or 0. -/
def lastV (c : Nat → Int) : Nat → Int
  | 0 => 0
  | k + 1 => c k
/-- The first k numbers are variables, in ascending order. -/
def varR (c : Nat → Int) : Nat → Bool
  | 0 => true
  | k + 1 => varR c k && (decide (lastV c k < c k) && decide (c k ≤ 12))
def varsB (n : Nat) (c : Nat → Int) : Bool := varR c n && decide (n ≤ 4)
/-- The first k numbers are literals. -/
def litR (c : Nat → Int) : Nat → Bool
  | 0 => true
  | k + 1 => litR c k && litB (c k)
def abF (c : Nat → Int) (i : Nat) : Int := ab (c i)
/-- A cube. -/
def cubeB (n : Nat) (c : Nat → Int) : Bool := litR c n && varsB n (abF c)
section
variable {c c' : Nat → Int} {n k : Nat}
theorem varR_at (h : varR c n = true) (hk : k < n) : lastV c k < c k ∧ c k ≤ 12 := by
  induction n with
  | zero => omega
  | succ n ih =>
    unfold varR at h
    simp only [Bool.and_eq_true, decide_eq_true_eq] at h
    by_cases e : k = n
    · subst e; exact h.2
    · exact ih h.1 (by omega)
theorem varR_no (h : ¬ (lastV c k < c k ∧ c k ≤ 12)) (hk : k < n) : varR c n = false := by
  cases hv : varR c n with
  | false => rfl
  | true => exact absurd (varR_at hv hk) h
theorem varR_yes (h : varR c k = true) (h1 : lastV c k < c k ∧ c k ≤ 12) : varR c (k + 1) = true := by
  unfold varR
  rw [h, decide_eq_true h1.1, decide_eq_true h1.2]
  rfl
theorem varsB_no (h : varR c n = false) : varsB n c = false := by unfold varsB; rw [h]; rfl
theorem varsB_yes (h : varR c n = true) : varsB n c = decide (n ≤ 4) := by unfold varsB; rw [h]; rfl
theorem lastV_ge (h : varR c k = true) : 0 ≤ lastV c k := by
  induction k with
  | zero => exact Int.le_refl _
  | succ k ih =>
    have h1 := varR_at h (Nat.lt_succ_self k)
    have h2 : varR c k = true := by
      unfold varR at h
      rw [Bool.and_eq_true] at h
      exact h.1
    have := ih h2
    show 0 ≤ c k
    omega
theorem varR_pos (h : varR c n = true) (hk : k < n) : 1 ≤ c k ∧ c k ≤ 12 := by
  have h1 := varR_at h hk
  have h2 : ∀ n, varR c n = true → k ≤ n → varR c k = true := by
    intro n
    induction n with
    | zero => intro h hk; obtain rfl : k = 0 := (by omega); rfl
    | succ n ih =>
      intro h hk
      by_cases e : k = n + 1
      · rw [e]; exact h
      · unfold varR at h
        rw [Bool.and_eq_true] at h
        exact ih h.1 (by omega)
  have := lastV_ge (h2 n h (by omega))
  omega
theorem varR_eq (h : ∀ i, i < n → c i = c' i) : varR c n = varR c' n := by
  induction n with
  | zero => rfl
  | succ n ih =>
    have h1 : lastV c n = lastV c' n := by
      cases n with
      | zero => rfl
      | succ m => exact h m (by omega)
    unfold varR
    rw [ih fun i hi => h i (by omega), h1, h n (by omega)]
theorem varsB_eq (h : ∀ i, i < n → c i = c' i) : varsB n c = varsB n c' := by unfold varsB; rw [varR_eq h]
theorem litR_at (h : litR c n = true) (hk : k < n) : litB (c k) = true := by
  induction n with
  | zero => omega
  | succ n ih =>
    unfold litR at h
    rw [Bool.and_eq_true] at h
    by_cases e : k = n
    · subst e; exact h.2
    · exact ih h.1 (by omega)
theorem litR_no (h : litB (c k) = false) (hk : k < n) : litR c n = false := by
  cases hv : litR c n with
  | false => rfl
  | true => rw [litR_at hv hk] at h; cases h
theorem litR_yes (h : litR c k = true) (h1 : litB (c k) = true) : litR c (k + 1) = true := by unfold litR; rw [h, h1]; rfl
theorem cube_lit (h : litB (c k) = false) (hk : k < n) : cubeB n c = false := by unfold cubeB; rw [litR_no h hk]; rfl
theorem cube_asc (h : ¬ (lastV (abF c) k < ab (c k))) (hk : k < n) : cubeB n c = false := by
  unfold cubeB
  rw [varsB_no (varR_no (c := abF c) (k := k) (fun h1 => h h1.1) hk), Bool.and_false]
theorem cube_end (h : litR c n = true) (h1 : varR (abF c) n = true) : cubeB n c = decide (n ≤ 4) := by unfold cubeB; rw [h, varsB_yes h1]; rfl
theorem cube_parts (h : cubeB n c = true) : litR c n = true ∧ varR (abF c) n = true ∧ n ≤ 4 := by
  unfold cubeB varsB at h
  simp only [Bool.and_eq_true, decide_eq_true_eq] at h
  exact ⟨h.1, h.2.1, h.2.2⟩
/-- Variables as literals. -/
theorem cube_vars : (cubeB n c && !(anyQ (fun i => decide (c i < 0)) n)) = varsB n c := by
  rw [Bool.eq_iff_iff]
  constructor
  · intro h
    rw [Bool.and_eq_true, Bool.not_eq_true'] at h
    obtain ⟨h1, h2⟩ := h
    obtain ⟨a1, a2, a3⟩ := cube_parts h1
    have hp : ∀ i, i < n → abF c i = c i := fun i hi => by
      have h3 : ¬ c i < 0 := fun h4 => by
        rw [anyQ_of hi (decide_eq_true h4)] at h2
        cases h2
      unfold abF ab
      rw [if_neg h3]
    rw [← varsB_eq hp]
    unfold varsB
    rw [a2, decide_eq_true a3]
    rfl
  · intro h
    have h0 := h
    unfold varsB at h
    simp only [Bool.and_eq_true, decide_eq_true_eq] at h
    have hp : ∀ i, i < n → abF c i = c i := fun i hi => by
      have := varR_pos h.1 hi
      unfold abF ab
      rw [if_neg (by omega)]
    have hl : ∀ k, k ≤ n → litR c k = true := by
      intro k
      induction k with
      | zero => intro _; rfl
      | succ k ih =>
        intro hk
        have := varR_pos h.1 (show k < n by omega)
        exact litR_yes (ih (by omega)) (litB_iff.2 (by omega))
    have hq : ∀ k, k ≤ n → anyQ (fun i => decide (c i < 0)) k = false := by
      intro k
      induction k with
      | zero => intro _; rfl
      | succ k ih =>
        intro hk
        have := varR_pos h.1 (show k < n by omega)
        exact anyQ_step (ih (by omega)) (decide_eq_false (by omega))
    rw [hq n (Nat.le_refl _)]
    unfold cubeB
    rw [hl n (Nat.le_refl _), varsB_eq hp, h0]
    rfl
end
/-- The variables of the first k literals. -/
def abL (c : Nat → Int) (k : Nat) : List Int := (List.range k).map (abF c)
theorem abL_succ (c : Nat → Int) (k : Nat) : abL c (k + 1) = abL c k ++ [ab (c k)] := by simp [abL, List.range_succ, abF]
theorem abL_len (c : Nat → Int) (k : Nat) : (abL c k).length = k := by simp [abL]
theorem abL_at (c : Nat → Int) {k i : Nat} (h : i < k) : gI (abL c k) i = abF c i := by simp [abL, gI, List.getD, h]
theorem vars_abL (c : Nat → Int) (n : Nat) : varsB n (gI (abL c n)) = varsB n (abF c) := varsB_eq fun _ hi => abL_at c hi
end Go.Proofs.YtnfkhakgikbbeaaGreat

namespace Go.Proofs.YtnfkhakgikbbeaaGreat
open Go.ChangeShapes Go.WideShapes Go.ChangeAt Go.RowKit

/-- Whether literal i of cube j of n variables is a negation. -/
def bitN (n j i : Nat) : Bool := decide (j / 2 ^ (n - 1 - i) % 2 = 1)
/-- Cube j of the first n variables. -/
def cbL (c : Nat → Int) (n j : Nat) : Lst := ⟨n, fun i => if bitN n j i = true then -(c i) else c i⟩
theorem bit_old {n k b i : Nat} (hb : b < 2) (hi : i < n) : bitN (n + 1) (2 * k + b) i = bitN n k i := by
  unfold bitN
  have e : n + 1 - 1 - i = (n - 1 - i) + 1 := by omega
  rw [e, Nat.pow_succ, Nat.mul_comm (2 ^ (n - 1 - i)) 2, ← Nat.div_div_eq_div_mul, show (2 * k + b) / 2 = k by omega]
theorem bit_new {n k b : Nat} (hb : b < 2) : bitN (n + 1) (2 * k + b) n = decide (b = 1) := by
  unfold bitN
  rw [show n + 1 - 1 - n = 0 by omega, Nat.pow_zero, Nat.div_one]
  congr 1
  rw [eq_iff_iff]
  omega
theorem cb_old {c : Nat → Int} {n k b i : Nat} (hb : b < 2) (hi : i < n) : (cbL c (n + 1) (2 * k + b)).x i = (cbL c n k).x i := by
  show (if bitN (n + 1) (2 * k + b) i = true then -(c i) else c i) = (if bitN n k i = true then -(c i) else c i)
  rw [bit_old hb hi]
theorem cb_pos {c : Nat → Int} {n k : Nat} : (cbL c (n + 1) (2 * k)).x n = c n := by
  show (if bitN (n + 1) (2 * k + 0) n = true then -(c n) else c n) = c n
  rw [bit_new (by omega), if_neg (by decide)]
theorem cb_neg {c : Nat → Int} {n k : Nat} : (cbL c (n + 1) (2 * k + 1)).x n = -(c n) := by
  show (if bitN (n + 1) (2 * k + 1) n = true then -(c n) else c n) = -(c n)
  rw [bit_new (by omega), if_pos (by decide)]
theorem cb_tot (c : Nat → Int) (n m : Nat) : totL (cbL c n) m = n * m := by
  induction m with
  | zero => rfl
  | succ m ih =>
    show totL (cbL c n) m + n = n * (m + 1)
    rw [ih, Nat.mul_succ]
theorem pow16 {n : Nat} (h : n ≤ 4) : 2 ^ n ≤ 16 := by
  have : n = 0 ∨ n = 1 ∨ n = 2 ∨ n = 3 ∨ n = 4 := by omega
  rcases this with rfl | rfl | rfl | rfl | rfl <;> decide
/-- How many cubes SplitCubes hands back, and whether it does. -/
def splN (n : Nat) (c : Nat → Int) : Nat := if varsB n c = true then 2 ^ n else 0
theorem vars_4 {n : Nat} {c : Nat → Int} (h : varsB n c = true) : n ≤ 4 := by
  unfold varsB at h
  simp only [Bool.and_eq_true, decide_eq_true_eq] at h
  exact h.2
theorem splN_yes {n : Nat} {c : Nat → Int} (h : varsB n c = true) : splN n c = 2 ^ n := if_pos h
theorem splN_no {n : Nat} {c : Nat → Int} (h : varsB n c = false) : splN n c = 0 := if_neg (by rw [h]; exact Bool.false_ne_true)
theorem splN_le (n : Nat) (c : Nat → Int) : splN n c ≤ 16 := by
  unfold splN
  split
  · exact pow16 (vars_4 ‹_›)
  · omega
theorem spl_all (n : Nat) (c : Nat → Int) (i : Nat) (hi : i < splN n c) : (cbL c n i).n ≤ 1048576 := by
  unfold splN at hi
  split at hi
  · have := vars_4 ‹_›
    show n ≤ 1048576
    omega
  · omega
theorem spl_tot (n : Nat) (c : Nat → Int) : splN n c + totL (cbL c n) (splN n c) ≤ 1048576 := by
  rw [cb_tot]
  unfold splN
  split
  · have h4 := vars_4 ‹_›
    have h16 := pow16 h4
    have := Nat.mul_le_mul h4 h16
    omega
  · omega
end Go.Proofs.YtnfkhakgikbbeaaGreat

namespace Go.Proofs.YtnfkhakgikbbeaaGreat
open Go.ChangeShapes Go.WideShapes Go.ChangeAt Go.RowKit

/-- Lists of ints that a call has made: their heads lie in the block that A names, list i in block f i; those that are not empty differ. -/
structure OwnLi (w : World) (A : Option Addr) (n : Nat) (r : Nat → Lst) (f : Nat → Nat) : Prop where
  row : n = 0 ∨ ∃ G cs, A = some ⟨G, 0, none⟩ ∧ w.heap[G]? = some (.cells cs 24 (0, 0)) ∧ ∀ i, i < n → ∃ Ai ci, cs[i]? = some (.slice Ai (r i).n ci) ∧ ((r i).n = 0 ∨ Ai = some ⟨f i, 0, none⟩)
  els : ∀ i, i < n → (r i).n = 0 ∨ OwnV w (f i) 3 (r i).n (r i).n (r i).x
  inj : ∀ i j, i < n → j < n → (r i).n ≠ 0 → (r j).n ≠ 0 → i ≠ j → f i ≠ f j
/-- In which blocks the lists lie that are not empty. -/
def SL (n : Nat) (r : Nat → Lst) (f : Nat → Nat) (b : Nat) : Prop := ∃ i, i < n ∧ (r i).n ≠ 0 ∧ f i = b
section
variable {w w' : World} {A Ai : Option Addr} {n ci : Nat} {r r' : Nat → Lst} {f : Nat → Nat}
theorem OwnV.room {G n k : Nat} {T : TypeId} {v : Nat → Int} (h : OwnV w G T n k v) : ∃ cs, w.heap[G]? = some (.cells cs T (0, 0)) := by
  obtain ⟨cs, h1, _⟩ := h
  exact ⟨cs, h1⟩
theorem OwnLi.keep (h : OwnLi w A n r f) (hG : n ≠ 0 → ∀ a, A = some a → w'.heap[a.block]? = w.heap[a.block]?) (hf : ∀ b, SL n r f b → w'.heap[b]? = w.heap[b]?) : OwnLi w' A n r f := by
  obtain ⟨hr, he, hi⟩ := h
  refine ⟨?_, fun i h0 => ?_, hi⟩
  · by_cases e : n = 0
    · exact .inl e
    · rcases hr with hr | ⟨G, cs, rfl, h1, h2⟩
      · exact .inl hr
      · exact .inr ⟨G, cs, rfl, (hG e _ rfl).trans h1, h2⟩
  · rcases he i h0 with h1 | h1
    · exact .inl h1
    · by_cases e : (r i).n = 0
      · exact .inl e
      · exact .inr (h1.at_ (hf _ ⟨i, h0, e, rfl⟩))
theorem OwnLi.onlyS {S : Nat → Prop} (h : OwnLi w A n r f) (ho : OnlyS S w w') (hG : n ≠ 0 → ∀ a, A = some a → ¬ S a.block) (hf : ∀ b, SL n r f b → ¬ S b) : OwnLi w' A n r f := by
  refine h.keep (fun e a ha => ho.block _ ?_ (hG e a ha)) (fun b hb => ho.block _ ?_ (hf b hb))
  · rcases h.row with hr | ⟨G, cs, rfl, h1, _⟩
    · exact absurd hr e
    · cases ha
      rcases Nat.lt_or_ge G w.heap.size with hlt | hge
      · exact hlt
      · rw [Array.getElem?_eq_none hge] at h1; cases h1
  · obtain ⟨i, h0, h1, rfl⟩ := hb
    rcases h.els i h0 with e | e
    · exact absurd e h1
    · exact e.lt
theorem OwnLi.below (h : OwnLi w A n r f) (hb : Below w.heap.size w w') : OwnLi w' A n r f :=
  h.onlyS (S := fun _ => False) ⟨hb.os, hb.tape, hb.output, hb.size, fun k hk _ => hb.block k hk⟩ (fun _ _ _ h => h) (fun _ _ h => h)
theorem OwnLi.cell (h : OwnLi w A n r f) {i : Nat} (hi : i < n) : ∃ G Ai ci, A = some ⟨G, 0, none⟩ ∧ w.cell? ⟨G, i, none⟩ = some (.slice Ai (r i).n ci) ∧ ((r i).n = 0 ∨ Ai = some ⟨f i, 0, none⟩) ∧ FrI w 0 3 Ai (r i).n (r i).x := by
  rcases h.row with e | ⟨G, cs, rfl, h1, h2⟩
  · omega
  · obtain ⟨Ai, ci, a, b⟩ := h2 i hi
    refine ⟨G, Ai, ci, rfl, (cell_of_row w G _ cs _ _ h1).trans a, b, ?_⟩
    rcases b with e | e
    · exact .inl e
    · rcases h.els i hi with k | k
      · exact .inl k
      · exact .inr ⟨_, e, Nat.zero_le _, k⟩
theorem OwnLi.rd (h : OwnLi w A n r f) : RdL w w.heap.size A n r := fun h0 => by
  rcases h.row with e | ⟨G, cs, rfl, h1, h2⟩
  · omega
  · refine ⟨G, 0, rfl, ?_, fun i hi => ?_⟩
    · rcases Nat.lt_or_ge G w.heap.size with hlt | hge
      · exact hlt
      · rw [Array.getElem?_eq_none hge] at h1; cases h1
    · obtain ⟨G', Ai, ci, e, hc, _, hf⟩ := h.cell hi
      cases e
      rw [Nat.zero_add]
      exact ⟨Ai, ci, hc, hf.rdAt⟩
/-- One of the lists is laid anew. -/
theorem OwnLi.put (h : OwnLi w A n r f) {j : Nat} (hj : j < n) (hA : (r j).n = 0 ∨ Ai = some ⟨f j, 0, none⟩) (ho : Only w w' Ai (r j).n) (hv : FrI w' 0 3 Ai (r j).n (r' j).x) (hn : (r' j).n = (r j).n) (he : ∀ i, i < n → i ≠ j → r' i = r i) : OwnLi w' A n r' f := by
  have hne : ∀ b, b < w.heap.size → ((r j).n = 0 ∨ b ≠ f j) → w'.heap[b]? = w.heap[b]? := fun b hl hb => ho.block b hl (by
    rcases hb with e | e
    · exact .inl e
    · rcases hA with k | k
      · exact .inl k
      · exact .inr fun a ha hh => by rw [k] at ha; cases ha; exact e hh)
  have hnn : ∀ i, i < n → (r' i).n = (r i).n := fun i hi => by
    by_cases e : i = j
    · rw [e]; exact hn
    · rw [he i hi e]
  refine ⟨?_, fun i hi => ?_, fun i k hi hk h1 h2 => h.inj i k hi hk (by rw [← hnn i hi]; exact h1) (by rw [← hnn k hk]; exact h2)⟩
  · rcases h.row with e | ⟨G, cs, rfl, h1, h2⟩
    · exact .inl e
    · refine .inr ⟨G, cs, rfl, (hne G ?_ ?_).trans h1, fun i hi => ?_⟩
      · rcases Nat.lt_or_ge G w.heap.size with hlt | hge
        · exact hlt
        · rw [Array.getElem?_eq_none hge] at h1; cases h1
      · rcases h.els j hj with e | e
        · exact .inl e
        · refine .inr fun eG => ?_
          obtain ⟨cs', h3⟩ := e.room
          rw [← eG, h1] at h3
          injection h3 with h3
          injection h3 with _ h4 _
          exact absurd h4 (by decide)
      · rw [hnn i hi]; exact h2 i hi
  · by_cases e : i = j
    · subst e
      rw [hn]
      rcases hv with k | ⟨G, e1, _, k⟩
      · exact .inl k
      · rcases hA with z | z
        · exact .inl z
        · rw [z] at e1
          cases e1
          exact .inr k
    · rw [he i hi e]
      rcases h.els i hi with k | k
      · exact .inl k
      · by_cases z : (r i).n = 0
        · exact .inl z
        · refine .inr (k.at_ (hne _ k.lt ?_))
          by_cases z' : (r j).n = 0
          · exact .inl z'
          · exact .inr (h.inj i j hi hj z z' e)
end

/-- The lists that the marking lays: the first j of them. -/
def mkW (k : Int) (r : Nat → Lst) (j i : Nat) : Lst := if i < j then ⟨(r i).n, mkI (k + totL r i)⟩ else r i
theorem mkW_n (k : Int) (r : Nat → Lst) (j i : Nat) : (mkW k r j i).n = (r i).n := by unfold mkW; split <;> rfl
theorem mkW_zero (k : Int) (r : Nat → Lst) : mkW k r 0 = r := funext fun i => if_neg (by omega)
theorem mkW_at (k : Int) (r : Nat → Lst) (j : Nat) : mkW k r j j = r j := if_neg (by omega)
theorem mkW_x (k : Int) (r : Nat → Lst) {j n : Nat} (h : j < n) : (mkW k r n j).x = mkI (k + totL r j) := by unfold mkW; rw [if_pos h]
theorem mkW_next (k : Int) (r : Nat → Lst) {j i : Nat} (h : i ≠ j) : mkW k r (j + 1) i = mkW k r j i := by
  unfold mkW
  by_cases e : i < j
  · rw [if_pos (by omega), if_pos e]
  · rw [if_neg (by omega), if_neg e]
theorem SL.mk_ {k : Int} {r : Nat → Lst} {f : Nat → Nat} {n m j b : Nat} (h : SL n (mkW k r j) f b) (hm : n ≤ m) : SL m r f b := by
  obtain ⟨i, h1, h2, h3⟩ := h
  exact ⟨i, by omega, by rw [← mkW_n k r j i]; exact h2, h3⟩
theorem add3 (k : Int) (r : Nat → Lst) (j : Nat) : Value.int .i64 (k + (totL r j : Int) + ((r j).n : Int)) = .int .i64 (k + ((totL r (j + 1) : Nat) : Int)) := by
  congr 1
  show _ = k + ((totL r j + (r j).n : Nat) : Int)
  omega

end Go.Proofs.YtnfkhakgikbbeaaGreat

namespace Go.Proofs.YtnfkhakgikbbeaaGreat
open Go.ChangeShapes Go.WideShapes Go.ChangeAt Go.RowKit

/-- In which blocks such lists lie, their heads' too. -/
def SLh (A : Option Addr) (n : Nat) (r : Nat → Lst) (f : Nat → Nat) (b : Nat) : Prop := (n ≠ 0 ∧ ∃ a, A = some a ∧ a.block = b) ∨ SL n r f b
/-- Lists that a call has made, in blocks from lo on and below hi. -/
def FL2 (w : World) (lo hi : Nat) (A : Option Addr) (n : Nat) (r : Nat → Lst) : Prop := ∃ f, OwnLi w A n r f ∧ ∀ b, SLh A n r f b → lo ≤ b ∧ b < hi
/-- Lists that a call has made, in blocks from lo on. -/
def FrL (w : World) (lo : Nat) (A : Option Addr) (n : Nat) (r : Nat → Lst) : Prop := ∃ f, OwnLi w A n r f ∧ ∀ b, SLh A n r f b → lo ≤ b
section
variable {w w' w1 : World} {A : Option Addr} {n cap lo hi lo' hi' : Nat} {r : Nat → Lst} {f : Nat → Nat}
theorem lblock_lt {w : World} {G : Nat} {o : Obj} (h : w.heap[G]? = some o) : G < w.heap.size := by
  rcases Nat.lt_or_ge G w.heap.size with hlt | hge
  · exact hlt
  · rw [Array.getElem?_eq_none hge] at h; cases h
theorem OwnLi.lt (h : OwnLi w A n r f) {b : Nat} (hb : SLh A n r f b) : b < w.heap.size := by
  rcases hb with ⟨e, a, ha, rfl⟩ | ⟨i, h0, h1, rfl⟩
  · rcases h.row with hr | ⟨G, cs, rfl, h1, _⟩
    · exact absurd hr e
    · cases ha
      exact lblock_lt h1
  · rcases h.els i h0 with e | e
    · exact absurd e h1
    · exact e.lt
theorem FrL.two (h : FrL w lo A n r) : FL2 w lo w.heap.size A n r := by
  obtain ⟨f, h1, h2⟩ := h
  exact ⟨f, h1, fun b hb => ⟨h2 b hb, h1.lt hb⟩⟩
theorem FL2.one (h : FL2 w lo hi A n r) : FrL w lo A n r := by
  obtain ⟨f, h1, h2⟩ := h
  exact ⟨f, h1, fun b hb => (h2 b hb).1⟩
theorem FrL.rdAt (h : FrL w lo A n r) : RdL w w.heap.size A n r := by
  obtain ⟨f, h1, _⟩ := h
  exact h1.rd
theorem FL2.rdAt (h : FL2 w lo hi A n r) : RdL w w.heap.size A n r := h.one.rdAt
theorem FrL.below (h : FrL w lo A n r) (hb : Below w.heap.size w w') : FrL w' lo A n r := by
  obtain ⟨f, h1, h2⟩ := h
  exact ⟨f, h1.below hb, h2⟩
theorem FL2.below (h : FL2 w lo hi A n r) (hb : Below w.heap.size w w') : FL2 w' lo hi A n r := by
  obtain ⟨f, h1, h2⟩ := h
  exact ⟨f, h1.below hb, h2⟩
theorem FrL.more (h : FrL w lo A n r) (hl : lo' ≤ lo) : FrL w lo' A n r := by
  obtain ⟨f, h1, h2⟩ := h
  exact ⟨f, h1, fun b hb => by have := h2 b hb; omega⟩
theorem FL2.onlyR (h : FL2 w lo hi A n r) (ho : OnlyR lo' hi' w w') (hd : hi ≤ lo' ∨ hi' ≤ lo) : FL2 w' lo hi A n r := by
  obtain ⟨f, h1, h2⟩ := h
  refine ⟨f, h1.keep (fun e a ha => ?_) (fun b hb => ?_), h2⟩
  · have hs : SLh A n r f a.block := .inl ⟨e, a, ha, rfl⟩
    exact ho.block _ (h1.lt hs) (by have := h2 _ hs; omega)
  · exact ho.block b (h1.lt (.inr hb)) (by have := h2 b (.inr hb); omega)
theorem frl_nil (w : World) (lo : Nat) (A : Option Addr) (r : Nat → Lst) : FrL w lo A 0 r := ⟨fun _ => 0, ⟨.inl rfl, fun i hi => absurd hi (by omega), fun i j hi => absurd hi (by omega)⟩, fun b hb => by
  rcases hb with ⟨h, _⟩ | ⟨i, hi, _⟩
  · exact absurd rfl h
  · omega⟩
theorem SLh.mk_ {k : Int} {j b : Nat} (h : SLh A n (mkW k r j) f b) : SLh A n r f b := by
  rcases h with h | h
  · exact .inl h
  · exact .inr (h.mk_ (Nat.le_refl _))
end
/-- Lists that a call builds one by one: the first k of them, in blocks from B on and below hi. -/
structure GrwL (w : World) (B hi : Nat) (ov : Value) (k : Nat) (xs : List Value) (r : Nat → Lst) (f : Nat → Nat) : Prop where
  own : w.ownsRow B 24 1 ov k xs
  els : ∀ i, i < k → ∃ Ai ci, xs[i]? = some (.slice Ai (r i).n ci) ∧ ((r i).n = 0 ∨ (Ai = some ⟨f i, 0, none⟩ ∧ B ≤ f i ∧ f i < hi ∧ OwnV w (f i) 3 (r i).n (r i).n (r i).x))
  inj : ∀ i j, i < k → j < k → (r i).n ≠ 0 → (r j).n ≠ 0 → i ≠ j → f i ≠ f j
section
variable {w W w' : World} {B hi hi' k : Nat} {ov : Value} {xs : List Value} {r : Nat → Lst} {f : Nat → Nat}
theorem GrwL.at_ (h : GrwL w B hi ov k xs r f) (hb : ∀ j, j < w.heap.size → w'.heap[j]? = w.heap[j]?) : GrwL w' B hi ov k xs r f := by
  refine ⟨⟨h.own.1, ?_⟩, fun i hi => ?_, h.inj⟩
  · rcases h.own.2 with hh | ⟨g, cap, cur, e1, hg, hh, hr⟩
    · exact .inl hh
    · exact .inr ⟨g, cap, cur, e1, hg, (hb g (lblock_lt hh)).trans hh, hr⟩
  · obtain ⟨Ai, ci, h1, h3⟩ := h.els i hi
    refine ⟨Ai, ci, h1, ?_⟩
    rcases h3 with e | ⟨a, b, c, d⟩
    · exact .inl e
    · exact .inr ⟨a, b, c, d.at_ (hb _ d.lt)⟩
theorem GrwL.below (h : GrwL w B hi ov k xs r f) (hb : Below w.heap.size w w') : GrwL w' B hi ov k xs r f := h.at_ fun j hj => hb.block j hj
theorem GrwL.up (h : GrwL w B hi ov k xs r f) (hh : hi ≤ hi') : GrwL w B hi' ov k xs r f :=
  ⟨h.own, fun i hi0 => by
    obtain ⟨Ai, ci, h1, h3⟩ := h.els i hi0
    exact ⟨Ai, ci, h1, h3.imp id fun ⟨a, b, c, d⟩ => ⟨a, b, by omega, d⟩⟩, h.inj⟩
theorem GrwL.nil_or (h : GrwL w B hi ov k xs r f) : (ov = .slice none 0 0 ∧ k = 0) ∨ ∃ g cap cur, ov = .slice (some ⟨g, 0, none⟩) k cap ∧ B ≤ g ∧ w.heap[g]? = some (.cells cur 24 (0, 0)) := by
  rcases h.own.2 with h1 | ⟨g, cap, cur, e, hg, hh, _⟩
  · exact .inl h1
  · exact .inr ⟨g, cap, cur, e, hg, hh⟩
theorem GrwL.lt (h : GrwL w B hi ov k xs r f) : ∀ j, ov.ownBlock = some j → B ≤ j ∧ j < w.heap.size := fun j e => h.own.lt j e
theorem grl_lit (W : World) (hi : Nat) (r : Nat → Lst) (f : Nat → Nat) : GrwL (W.alloc (.cells #[] 24)) W.heap.size hi (.slice (some ⟨W.heap.size, 0, none⟩) 0 0) 0 [] r f :=
  ⟨by simpa using World.ownsRow_lit W #[] 0 (Nat.le_refl _) (by unfold maxLen; omega) (by simp), fun i hi => by omega, fun i j hi => by omega⟩
/-- Such a row is a slice of lists that a call has made. -/
theorem GrwL.fin (h : GrwL w B hi ov k xs r f) : ∃ A cap, ov = .slice A k cap ∧ FrL w B A k r := by
  rcases h.own.2 with ⟨e, h0⟩ | ⟨g, cap, cur, e, hg, hh, hnc, _, hsz, htk⟩
  · subst h0
    exact ⟨none, 0, e, frl_nil _ _ _ _⟩
  · refine ⟨_, cap, e, f, ⟨.inr ⟨g, cur, rfl, hh, fun i hi => ?_⟩, fun i hi => ?_, h.inj⟩, fun b hb => ?_⟩
    · obtain ⟨Ai, ci, h1, h3⟩ := h.els i hi
      refine ⟨Ai, ci, ?_, h3.imp id fun x => x.1⟩
      rw [← htk, List.getElem?_take_of_lt (by omega)] at h1
      simpa using h1
    · obtain ⟨Ai, ci, _, h3⟩ := h.els i hi
      exact h3.imp id fun x => x.2.2.2
    · rcases hb with ⟨_, a, ha, rfl⟩ | ⟨i, hi, hz, rfl⟩
      · cases ha
        exact hg
      · obtain ⟨Ai, ci, _, h3⟩ := h.els i hi
        rcases h3 with e | ⟨_, b, _, _⟩
        · exact absurd e hz
        · exact b
set_option maxRecDepth 100000 in
set_option maxHeartbeats 800000 in
/-- The append of one list, which lies in a block of its own from hi on. -/
theorem wp_grl1 {o : Oper} {a : Act} {K : Act → World → Prop} {Q : Exit → Act → World → Prop} (s x : Operand)
    (ho : o.op = .call { callee := .builtin .append, args := #[s, x], argTypes := #[28, 28] })
    (h : GrwL W B hi ov k xs r f) (hB : B ≤ hi) (hhi : hi ≤ W.heap.size) (hs : a.eval s = ov) {H : Nat} (hx : a.eval x = .slice (some ⟨H, 0, none⟩) 1 1) {A : Option Addr} {cap : Nat} {T' : TypeId} (hnew : W.heap[H]? = some (.cells #[.slice A (r k).n cap] T' (0, 0))) (hel : FrI W hi 3 A (r k).n (r k).x) (hk : k ≤ 10000)
    (hK : ∀ g cap' w' zs f', GrwL w' B w'.heap.size (.slice (some ⟨g, 0, none⟩) (k + 1) cap') (k + 1) zs r f' → W.grownBy w' ov.ownBlock → K (a.put o.dst (.slice (some ⟨g, 0, none⟩) (k + 1) cap')) w') :
    o.wp Tryz.prog a W K Q := by
  obtain ⟨i0, hi0, hz0, hz1, hz2⟩ := info_parts Tryz.infoIS
  refine wp_append_lies _ s x 28 ho B 24 i0 _ 1 24 Tryz.underlying28 hi0 hz0 hz1 hz2 rfl (by omega) ov k _ hs h.own ⟨H, 0, none⟩ 1 1 [.slice A (r k).n cap] hx (by rfl)
    (World.news_of_block hnew) (by simp [Value.oneCell']) (by omega) (by unfold maxLen; omega) (by omega) (by omega) W.heap.size rfl ?_
  intro g cap' w' hown hg _ _
  have hkeep : ∀ {G n : Nat} {v : Nat → Int}, OwnV W G 3 n n v → OwnV w' G 3 n n v := fun {G n v} hu => by
    refine hu.at_ (hg.block G hu.lt ?_)
    rcases h.nil_or with ⟨e, _⟩ | ⟨g0, cap0, cur, e, _, hh⟩
    · rw [e]; intro h; cases h
    · rw [e]
      intro e2
      cases e2
      obtain ⟨cs, h3, _⟩ := hu
      rw [hh] at h3
      injection h3 with h3
      injection h3 with _ h4 _
      exact absurd h4 (by decide)
  obtain ⟨g1, hg1⟩ : ∃ g1, (r k).n = 0 ∨ (A = some ⟨g1, 0, none⟩ ∧ hi ≤ g1 ∧ OwnV W g1 3 (r k).n (r k).n (r k).x) := by
    rcases hel with e | ⟨G, e, h1, h2⟩
    · exact ⟨0, .inl e⟩
    · exact ⟨G, .inr ⟨e, h1, h2⟩⟩
  have hxl : xs.length = k := by have := h.own.1; omega
  refine hK g cap' w' _ (fun i => if i = k then g1 else f i) ⟨hown, fun i hi1 => ?_, fun i j hi1 hj1 hz1 hz2 hne => ?_⟩ hg
  · by_cases e : i = k
    · subst e
      refine ⟨A, cap, ?_, ?_⟩
      · rw [List.getElem?_append_right (by omega), hxl]; simp
      · rcases hg1 with e | ⟨a1, a2, a3⟩
        · exact .inl e
        · refine .inr ⟨by rw [if_pos rfl]; exact a1, by rw [if_pos rfl]; omega, by rw [if_pos rfl]; exact (hkeep a3).lt, by rw [if_pos rfl]; exact hkeep a3⟩
    · obtain ⟨Ai, ci, h1, h3⟩ := h.els i (by omega)
      refine ⟨Ai, ci, ?_, ?_⟩
      · rw [List.getElem?_append_left (by omega)]; exact h1
      · simp only [if_neg e]
        rcases h3 with e3 | ⟨a1, a2, a3, a4⟩
        · exact .inl e3
        · exact .inr ⟨a1, a2, (hkeep a4).lt, hkeep a4⟩
  · have hold : ∀ i, i < k → (r i).n ≠ 0 → f i < hi := fun i hi1 hz => by
      obtain ⟨_, _, _, h3⟩ := h.els i hi1
      rcases h3 with e | ⟨_, _, c, _⟩
      · exact absurd e hz
      · exact c
    have hnew1 : (r k).n ≠ 0 → hi ≤ g1 := fun hz => by
      rcases hg1 with e | ⟨_, a2, _⟩
      · exact absurd e hz
      · exact a2
    show (if i = k then g1 else f i) ≠ (if j = k then g1 else f j)
    by_cases e : i = k
    · have e2 : j ≠ k := fun e' => hne (by omega)
      rw [if_pos e, if_neg e2]
      have h1 := hold j (by omega) hz2
      have h2 := hnew1 (by rw [← e]; exact hz1)
      omega
    · by_cases e2 : j = k
      · rw [if_pos e2, if_neg e]
        have h1 := hold i (by omega) hz1
        have h2 := hnew1 (by rw [← e2]; exact hz2)
        omega
      · rw [if_neg e, if_neg e2]
        exact h.inj i j (by omega) (by omega) hz1 hz2 hne
end
end Go.Proofs.YtnfkhakgikbbeaaGreat

namespace Go.Proofs.YtnfkhakgikbbeaaGreat
open Go.ChangeShapes Go.WideShapes Go.ChangeAt Go.RowKit

set_option linter.unusedVariables false in
set_option maxRecDepth 100000 in
set_option maxHeartbeats 1600000 in
theorem isCube_any (A : Option Addr) (n cap : Nat) (c : Nat → Int) (w : World) (hn : n ≤ 1048576) (hr : RdI w w.heap.size A n c) :
    Calls Tryz.prog 27 #[.slice A n cap] w fun e w' => e = .returned (.bool (cubeB n c)) ∧ Below w.heap.size w w' := by
  go_enter Tryz.func27, Tryz.ntmps27
  go_wp2
  go_loopw [3, 9] (fun t i wr => ∃ k : Nat, k ≤ n ∧ i = .int .i64 k ∧ t = .int .i64 (lastV (abF c) k) ∧ litR c k = true ∧ varR (abF c) k = true ∧ Below w.heap.size w wr) (fun _ i _ => n - (intOf i).toNat)
  case atStart => exact ⟨0, Nat.zero_le _, rfl, rfl, rfl, rfl, Below.refl _ _⟩
  case round =>
    obtain ⟨k, hk, rfl, rfl, hl, hv, hb⟩ := hrel
    have Hl := Lib.hid hl
    have Hv := Lib.hid hv
    clear hl hv
    by_cases hlt : k < n
    · obtain ⟨b, off, rfl, hbl, hc⟩ := (hr.below hb) (by omega)
      have hc1 := hc k hlt
      clear hc hr
      by_cases hL : litB (c k) = true
      · obtain ⟨hl0, hl1, hl2⟩ := litB_iff.1 hL
        by_cases hA : ab (c k) ≤ lastV (abF c) k
        · have No := Lib.hid (cube_asc (c := c) (k := k) (by omega) hlt)
          clear hl0
          go_wp2_with (first | (go_at_call 53; refine (litValid_any _ _).mono ?_; rintro e w' ⟨rfl, rfl⟩) | (go_at_call 54; refine (litVariable_any _ _ (by assumption) (by assumption)).mono ?_; rintro e w' ⟨rfl, rfl⟩))
          go_ret
          exact ⟨ret_bool No.out.symm, hb⟩
        · have H1 := Lib.hid (litR_yes Hl.out hL)
          have H2 := Lib.hid (varR_yes Hv.out ⟨show lastV (abF c) k < ab (c k) by omega, (ab_pos hL).2⟩)
          clear hl0
          go_wp2_with (first | (go_at_call 53; refine (litValid_any _ _).mono ?_; rintro e w' ⟨rfl, rfl⟩) | (go_at_call 54; refine (litVariable_any _ _ (by assumption) (by assumption)).mono ?_; rintro e w' ⟨rfl, rfl⟩))
          go_roundw
          case rel => exact ⟨k + 1, by omega, by go_num, rfl, H1.out, H2.out, hb⟩
          case measure => simp [intOf]; omega
      · rw [Bool.not_eq_true] at hL
        have No := Lib.hid (cube_lit (n := n) hL hlt)
        go_wp2_with (go_at_call 53; refine (litValid_any _ _).mono ?_; rintro e w' ⟨rfl, rfl⟩)
        go_ret
        exact ⟨ret_bool No.out.symm, hb⟩
    · have e : k = n := by omega
      subst e
      have Hfin := Lib.hid (cube_end Hl.out Hv.out)
      clear hr
      go_wp2
      go_ret
      exact ⟨ret_bool (by rw [Hfin.out, decide_eq_decide]; omega), hb⟩

set_option linter.unusedVariables false in
set_option maxRecDepth 100000 in
set_option maxHeartbeats 1600000 in
theorem l12Vars_any (A : Option Addr) (n cap : Nat) (c : Nat → Int) (w : World) (hn : n ≤ 1048576) (hr : RdI w w.heap.size A n c) :
    Calls Tryz.prog 30 #[.slice A n cap] w fun e w' => e = .returned (.bool (varsB n c)) ∧ Below w.heap.size w w' := by
  go_enter Tryz.func30, Tryz.ntmps30
  go_wp2
  go_loopw [3] (fun i wr => ∃ k : Nat, k ≤ n ∧ i = .int .i64 k ∧ varR c k = true ∧ Below w.heap.size w wr) (fun i _ => n - (intOf i).toNat)
  case atStart => exact ⟨0, Nat.zero_le _, rfl, rfl, Below.refl _ _⟩
  case round =>
    obtain ⟨k, hk, rfl, hp, hb⟩ := hrel
    have Hp := Lib.hid hp
    clear hp
    by_cases hlt : k < n
    · obtain ⟨b, off, rfl, hbl, hc⟩ := (hr.below hb) (by omega)
      have hck := hc k hlt
      have hlt' : (k : Int) < (n : Int) := by omega
      have hk0 : (0 : Int) ≤ (k : Int) := by omega
      have hge := lastV_ge Hp.out
      by_cases h0 : c k < 1
      · have No := Lib.hid (varsB_no (varR_no (c := c) (k := k) (n := n) (fun h => by omega) hlt))
        clear hc hr hge
        go_wp2_with fail
        go_quiet (fail)
        go_wp2
        go_ret
        exact ⟨ret_bool No.out.symm, bl_drewN hb _⟩
      · have hd0 : decide (c k < 1) = false := by simpa using h0
        by_cases h2 : 12 < c k
        · have No := Lib.hid (varsB_no (varR_no (c := c) (k := k) (n := n) (fun h => by omega) hlt))
          clear hc hr hge
          go_wp2_with fail
          go_quiet (fail)
          go_wp2
          go_ret
          exact ⟨ret_bool No.out.symm, bl_drewN hb _⟩
        · have hd2 : decide (12 < c k) = false := by simpa using h2
          cases k with
          | zero =>
            simp only [Nat.add_zero] at hck
            have Go_ := Lib.hid (varR_yes (c := c) Hp.out ⟨show (0 : Int) < c 0 by omega, by omega⟩)
            clear hc hr hge
            go_wp2_with fail
            go_quiet (fail)
            go_wp2
            go_roundw
            case rel => exact ⟨1, by omega, rfl, Go_.out, bl_drewN hb _⟩
            case measure => simp [intOf]; omega
          | succ j =>
            have hcj := hc j (by omega)
            have hj0 : (0 : Int) ≤ (j : Int) := by omega
            have hj1 : (j : Int) < (n : Int) := by omega
            have hpos : (0 : Int) < ((j + 1 : Nat) : Int) := by omega
            by_cases h3 : c (j + 1) ≤ c j
            · have No := Lib.hid (varsB_no (varR_no (c := c) (k := j + 1) (n := n) (fun h => by have h4 : c j < c (j + 1) := h.1; omega) hlt))
              clear hc hr hge
              go_wp2_with fail
              have hwj : IntKind.i64.wrap (j : Int) = j := IntWalk.i64_in _ (by omega)
              go_quiet (fail)
              clear hwj
              go_wp2
              go_ret
              exact ⟨ret_bool No.out.symm, bl_drewN hb _⟩
            · have hd3 : decide (c (j + 1) ≤ c j) = false := by simpa using h3
              have Go_ := Lib.hid (varR_yes (c := c) Hp.out ⟨show c j < c (j + 1) by omega, by omega⟩)
              clear hc hr hge
              go_wp2_with fail
              have hwj : IntKind.i64.wrap (j : Int) = j := IntWalk.i64_in _ (by omega)
              go_quiet (fail)
              clear hwj
              go_wp2
              go_roundw
              case rel => exact ⟨j + 1 + 1, by omega, by go_num, Go_.out, bl_drewN hb _⟩
              case measure => simp [intOf]; omega
    · have e : k = n := by omega
      subst e
      have Hfin := Lib.hid (varsB_yes Hp.out)
      clear hr
      go_wp2
      go_ret
      exact ⟨ret_bool (by rw [Hfin.out, decide_eq_decide]; omega), hb⟩

end Go.Proofs.YtnfkhakgikbbeaaGreat

namespace Go.Proofs.YtnfkhakgikbbeaaGreat
open Go.ChangeShapes Go.WideShapes Go.ChangeAt Go.RowKit

def intXs (c : Nat → Int) (n : Nat) : List Value := (List.range n).map fun i => .int .i64 (c i)
theorem intXs_len (c : Nat → Int) (n : Nat) : (intXs c n).length = n := by simp [intXs]
theorem intXs_one (c : Nat → Int) (n : Nat) : ∀ u ∈ intXs c n, u.oneCell' = true := fun u hu => by
  obtain ⟨i, _, rfl⟩ := List.mem_map.1 hu
  rfl
theorem intXs_at (c : Nat → Int) {n i : Nat} (h : i < n) : (intXs c n)[i]? = some (.int .i64 (c i)) := by simp [intXs, h]
theorem intXs_src {w : World} {a : Addr} {n : Nat} {c : Nat → Int} (h : RdI w w.heap.size (some a) n c) : ∀ j u, (intXs c n)[j]? = some u → w.cell? (a.add j) = some u := fun j u hj => by
  have hlt : j < n := by
    rcases Nat.lt_or_ge j n with hlt | hge
    · exact hlt
    · rw [List.getElem?_eq_none (by rw [intXs_len]; exact hge)] at hj; cases hj
  obtain ⟨b, off, e, _, hc⟩ := h (by omega)
  cases e
  rw [intXs_at c hlt] at hj
  cases hj
  rw [Go.WideShapes.add_plain]
  exact hc j hlt
theorem RowX.fri {w : World} {B n : Nat} {A : Option Addr} {c : Nat → Int} (h : RowX w B 3 A n (intXs c n)) : FrI w B 3 A n c := by
  rcases h with h | ⟨g, cs, e, hg, hh, hx⟩
  · exact .inl h
  · refine .inr ⟨g, e, hg, cs, hh, ?_, fun i hi => hx i _ (intXs_at c hi)⟩
    rcases Nat.eq_zero_or_pos n with h0 | h0
    · omega
    · have := hx (n - 1) _ (intXs_at c (show n - 1 < n by omega))
      have := (Array.getElem?_eq_some_iff.1 this).1
      omega

set_option linter.unusedVariables false in
set_option maxRecDepth 100000 in
set_option maxHeartbeats 1600000 in
theorem cloneJ_any (A : Option Addr) (n cap : Nat) (c : Nat → Int) (w : World) (hn : n ≤ 1048576) (hr : RdI w w.heap.size A n c) :
    Calls Tryz.prog 56 #[.slice A n cap] w fun e w' => ∃ A' cap', e = .returned (.slice A' n cap') ∧ FrI w' w.heap.size 3 A' n c ∧ Below w.heap.size w w' := by
  have qT : ∀ (w : World) (a : Option Addr) (n c n' c' : Nat), (binOp .eql 24 (.slice a n c) (.slice none n' c')).run Tryz.prog w = .ok (.bool a.isNone) w := fun w a n c n' c' => Lib.run_eql_slice_nil w _ _ a n c n' c' Tryz.underlying24
  cases A with
  | none =>
    have h0 : n = 0 := by
      rcases Nat.eq_zero_or_pos n with e | e
      · exact e
      · obtain ⟨b, off, ha, _⟩ := hr e
        cases ha
    subst h0
    clear hr
    go_enter Tryz.func56, Tryz.ntmps56
    go_wp2
    go_ret
    exact ⟨none, 0, rfl, .inl rfl, Below.refl _ _⟩
  | some a =>
    obtain ⟨i0, hi, hz0, hz1, hz2⟩ := info_parts Tryz.infoInt
    have HI := Lib.hid hi
    have HZ0 := Lib.hid hz0
    have HZ1 := Lib.hid hz1
    have HZ2 := Lib.hid hz2
    have HcA := Lib.hid (show 0 < n → ∀ j u, (intXs c n)[j]? = some u → (w.alloc (.cells #[] 3)).cell? (a.add j) = some u from fun e j u hj => kc (bl_alloc (Below.refl w.heap.size w) (.cells #[] 3)) (intXs_src hr j u hj))
    have HR0 := Lib.hid (rowX_new w 3 1)
    clear hr hi hz0 hz1 hz2
    go_enter Tryz.func56, Tryz.ntmps56
    go_wp2_with (at_builtin; refine wpList_plain (by rfl) fun K' hK' => ?_; refine wpX_cp (xs := intXs c n) _ _ 24 3 (by rfl) (by rfl) i0 _ 1 8 Tryz.underlying24 HI.out HZ0.out HZ1.out HZ2.out rfl (by omega) (B0 := w.heap.size) (by rfl) (by rfl) (by rw [intXs_len]; omega) HR0.out (by intro j hj; cases hj; exact Nat.le_refl _) HcA.out (intXs_one c n) (by unfold maxLen; omega) (by omega) (by simp) ?_; intro A1 cap1 w7 hov hb7; have Hbx := Lib.hid ((bl_alloc (Below.refl w.heap.size w) (.cells #[] 3)).trans hb7); have Hov := Lib.hid hov.fri; clear hov hb7; refine hK' _ _ ?_; clear hK' K')
    go_ret
    exact ⟨A1, cap1, rfl, Hov.out, Hbx.out⟩
end Go.Proofs.YtnfkhakgikbbeaaGreat

namespace Go.Proofs.YtnfkhakgikbbeaaGreat
open Go.ChangeShapes Go.WideShapes Go.ChangeAt Go.RowKit

/-- How many operations have not run. -/
def leftO (listed : Array Bool) : Nat := listed.toList.countP (fun b => !b)
theorem leftO_zero {md : Region.Mode} {ops : Array Oper} {listed : Array Bool} (h : leftO listed = 0) : Region.ready md ops listed = [] := by
  unfold Region.ready
  rw [List.filter_eq_nil_iff]
  intro i _ hi
  simp only [Bool.and_eq_true, Bool.not_eq_true'] at hi
  have h1 := hi.1
  have hall : ∀ b ∈ listed.toList, ¬ (!b) = true := List.countP_eq_zero.1 h
  by_cases hlt : i < listed.size
  · have hg : listed.getD i true = listed[i] := by simp [Array.getD, hlt]
    rw [hg] at h1
    have := hall listed[i] (Array.getElem_mem_toList hlt)
    rw [h1] at this
    exact this rfl
  · have hg : listed.getD i true = true := by simp [Array.getD, hlt]
    rw [hg] at h1
    cases h1
theorem leftO_set {listed : Array Bool} {i : Nat} (h : listed.getD i true = false) : leftO (listed.setIfInBounds i true) + 1 = leftO listed := by
  have hlt : i < listed.size := by
    rcases Nat.lt_or_ge i listed.size with hlt | hge
    · exact hlt
    · have : listed.getD i true = true := by simp [Array.getD, show ¬ i < listed.size by omega]
      rw [this] at h; cases h
  have hg : listed.getD i true = listed[i] := by simp [Array.getD, hlt]
  rw [hg] at h
  unfold leftO
  rw [Array.toList_setIfInBounds, List.countP_set (by simpa using hlt)]
  have h2 : listed.toList[i]'(by simpa using hlt) = false := by simpa using h
  have h3 : 0 < listed.toList.countP (fun b => !b) := List.countP_pos_iff.2 ⟨_, List.getElem_mem (by simpa using hlt), by rw [h2]; rfl⟩
  rw [h2]
  simp only [Bool.not_false, if_true, Bool.not_true, Bool.false_eq_true, if_false]
  omega
/-- What has run, once i has run. -/
def updL (L : Nat → Bool) (i j : Nat) : Bool := if j = i then true else L j
theorem getD_set {listed : Array Bool} {i j : Nat} : (listed.setIfInBounds i true).getD j true = updL (fun j => listed.getD j true) i j := by
  unfold updL
  by_cases e : j = i
  · subst e
    rw [if_pos rfl]
    by_cases hlt : j < listed.size
    · simp [Array.getD, hlt]
    · simp [Array.getD, hlt]
  · rw [if_neg e]
    by_cases hlt : j < listed.size
    · simp [Array.getD, hlt, show ¬ i = j from fun h => e h.symm]
    · simp [Array.getD, hlt]
theorem all_listed {md : Region.Mode} {ops : Array Oper} {listed : Array Bool} (hs : listed.size = ops.size) (hac : ∀ (i : Nat) (o : Oper), ops[i]? = some o → ∀ e : Edge, e ∈ o.after → e.on < i) (hr : Region.ready md ops listed = []) : ∀ i, listed.getD i true = true := by
  intro i
  induction i using Nat.strongRecOn with
  | ind i ih =>
    by_cases hlt : i < ops.size
    · cases hb : listed.getD i true with
      | true => rfl
      | false =>
        exfalso
        have hm : i ∈ Region.ready md ops listed := by
          unfold Region.ready
          refine List.mem_filter.2 ⟨List.mem_range.2 hlt, ?_⟩
          have ho : ops[i]? = some ops[i] := Array.getElem?_eq_getElem hlt
          simp only [Bool.and_eq_true, Bool.not_eq_true', hb, true_and]
          rw [ho]
          simp only [Option.map_some, Option.getD_some]
          rw [Array.all_eq_true_iff_forall_mem]
          intro e he
          have h1 := ih e.on (hac i _ ho e he)
          have h2 : e.on < listed.size := by have := hac i _ ho e he; omega
          have h3 : listed.getD e.on false = true := by
            simp [Array.getD, h2] at h1 ⊢
            exact h1
          rw [h3]; simp
        rw [hr] at hm
        cases hm
    · simp [Array.getD, show ¬ i < listed.size by omega]

/-- A region that draws its order: an invariant over what has run. -/
theorem region_inv {P : Program} {id : Nat} {ops : Array Oper} {Q : Exit → Act → World → Prop} {a : Act} {w : World} (hmix : P.follows .mixedOrders = true) (I : (Nat → Bool) → Act → World → Prop)
    (hac : ∀ (i : Nat) (o : Oper), ops[i]? = some o → ∀ e : Edge, e ∈ o.after → e.on < i)
    (h0 : ∀ L : Nat → Bool, (∀ i, i < ops.size → L i = false) → I L a w.drew)
    (hend : ∀ (L : Nat → Bool) a w, (∀ i, L i = true) → I L a w → Q .normal a w)
    (hstep : ∀ (L : Nat → Bool) (i : Nat) (o : Oper), ops[i]? = some o → L i = false → (∀ e : Edge, e ∈ o.after → Region.binds .any e = true → L e.on = true) → ∀ a w, I L a w → ∀ K' : Act → World → Prop, (∀ a' w', I (updL L i) a' w' → K' a' w') → if Region.wanted o (yielded ops a.tmps) = true then Oper.wp P o a w K' Q else K' (a.put o.dst undef) w) :
    (Code.region id ops true).wp P Q a w := by
  refine wp_region_any hmix ?_
  have key : ∀ (fuel : Nat) (listed : Array Bool) (a : Act) (w : World), listed.size = ops.size → leftO listed ≤ fuel → I (fun j => listed.getD j true) a w → wpAny P .any ops Q fuel listed a w := by
    intro fuel
    induction fuel with
    | zero =>
      intro listed a w hs hl hI
      have hr := leftO_zero (md := .any) (ops := ops) (listed := listed) (by omega)
      exact ⟨hr, hend _ a w (all_listed hs hac hr) hI⟩
    | succ fuel ih =>
      intro listed a w hs hl hI
      refine ⟨fun hr => hend _ a w (all_listed hs hac hr) hI, fun i hi => ?_⟩
      unfold Region.ready at hi
      obtain ⟨hi1, hi2⟩ := List.mem_filter.1 hi
      have hlt := List.mem_range.1 hi1
      have ho : ops[i]? = some ops[i] := Array.getElem?_eq_getElem hlt
      simp only [Bool.and_eq_true, Bool.not_eq_true'] at hi2
      obtain ⟨hu, hd⟩ := hi2
      rw [ho] at hd
      simp only [Option.map_some, Option.getD_some] at hd
      rw [Array.all_eq_true_iff_forall_mem] at hd
      refine wpOp_step ho fun K' hK' => hstep (fun j => listed.getD j true) i _ ho hu (fun e he hb => ?_) a w hI K' fun a' w' hI' => hK' a' w' (ih _ a' w' (by simp [hs]) (by have := leftO_set hu; omega) ?_)
      · have h1 := hd e he
        rw [hb] at h1
        simp only [Bool.not_true, Bool.false_or] at h1
        have h2 : e.on < listed.size := by have := hac i _ ho e he; omega
        simp [Array.getD, h2] at h1 ⊢
        exact h1
      · have e : (fun j => (listed.setIfInBounds i true).getD j true) = updL (fun j => listed.getD j true) i := funext fun j => getD_set
        rw [e]; exact hI'
  refine key _ _ _ _ (by simp) ?_ ?_
  · unfold leftO
    refine Nat.le_trans List.countP_le_length ?_
    simp
  · exact h0 _ fun i hi => by simp [Array.getD, hi]
end Go.Proofs.YtnfkhakgikbbeaaGreat

namespace Go.Proofs.YtnfkhakgikbbeaaGreat
open Go.ChangeShapes Go.WideShapes Go.ChangeAt Go.RowKit

/-- The steps of a region's operations keep an invariant. -/
def StepsI (P : Program) (Q : Exit → Act → World → Prop) (I : (Nat → Bool) → Act → World → Prop) (l : List (List Nat)) : Nat → List Oper → Prop
  | _, [] => True
  | i, o :: os => (∀ L : Nat → Bool, L i = false → (∀ k, k ∈ l.getD i [] → L k = true) → (∀ j k, k ∈ l.getD j [] → L j = true → L k = true) → ∀ a w, I L a w → ∀ K' : Act → World → Prop, (∀ a' w', I (updL L i) a' w' → K' a' w') → Oper.wp P o a w K' Q) ∧ StepsI P Q I l (i + 1) os
theorem StepsI.at_ {P : Program} {Q : Exit → Act → World → Prop} {I : (Nat → Bool) → Act → World → Prop} {l : List (List Nat)} {os : List Oper} : ∀ {i0 : Nat}, StepsI P Q I l i0 os → ∀ {j : Nat} {o : Oper}, os[j]? = some o →
    ∀ L : Nat → Bool, L (i0 + j) = false → (∀ k, k ∈ l.getD (i0 + j) [] → L k = true) → (∀ j k, k ∈ l.getD j [] → L j = true → L k = true) → ∀ a w, I L a w → ∀ K' : Act → World → Prop, (∀ a' w', I (updL L (i0 + j)) a' w' → K' a' w') → Oper.wp P o a w K' Q := by
  induction os with
  | nil => intro i0 _ j o ho; simp at ho
  | cons o' os ih =>
    intro i0 h j o ho
    cases j with
    | zero =>
      simp only [List.getElem?_cons_zero, Option.some.injEq] at ho
      subst ho
      exact h.1
    | succ j =>
      simp only [List.getElem?_cons_succ] at ho
      have := ih h.2 ho
      rw [show i0 + 1 + j = i0 + (j + 1) by omega] at this
      exact this
/-- The edges that are told stand in the text. -/
def edgesOk (l : List (List Nat)) (ops : List Oper) : Bool := decide (l.length ≤ ops.length) && (List.range ops.length).all fun i => match ops[i]? with
  | some o => o.guard.isNone && (o.after.toList.all (fun e => decide (e.on < i)) && (l.getD i []).all fun k => o.after.toList.any fun e => e.on == k && Region.binds .any e)
  | none => true
theorem region_steps {P : Program} {id : Nat} {ops : List Oper} {Q : Exit → Act → World → Prop} {a : Act} {w : World} (J : Act → (Nat → Bool) → Act → World → Prop) (l : List (List Nat)) (hmix : P.follows .mixedOrders = true) (hok : edgesOk l ops = true)
    (h0 : ∀ L : Nat → Bool, (∀ i, i < ops.length → L i = false) → J a L a w.drew)
    (hs : StepsI P Q (J a) l 0 ops)
    (hend : ∀ L : Nat → Bool, (∀ i, L i = true) → ∀ a' w', J a L a' w' → Q .normal a' w') :
    (Code.region id ops.toArray true).wp P Q a w := by
  unfold edgesOk at hok
  rw [Bool.and_eq_true] at hok
  have hlen := of_decide_eq_true hok.1
  have hall : ∀ (i : Nat) (o : Oper), ops[i]? = some o → o.guard = none ∧ (∀ e : Edge, e ∈ o.after → e.on < i) ∧ ∀ k, k ∈ l.getD i [] → ∃ e : Edge, e ∈ o.after ∧ e.on = k ∧ Region.binds .any e = true := by
    intro i o ho
    have hi : i < ops.length := (List.getElem?_eq_some_iff.1 ho).1
    have := List.all_eq_true.1 hok.2 i (List.mem_range.2 hi)
    rw [ho] at this
    simp only [Bool.and_eq_true] at this
    obtain ⟨h1, h2, h3⟩ := this
    have h1' : o.guard = none := by
      cases hg : o.guard with
      | none => rfl
      | some x => rw [hg] at h1; cases h1
    refine ⟨h1', fun e he => ?_, fun k hk => ?_⟩
    · exact of_decide_eq_true (List.all_eq_true.1 h2 e (by simpa using he))
    · obtain ⟨e, he, h4⟩ := List.any_eq_true.1 (List.all_eq_true.1 h3 k hk)
      rw [Bool.and_eq_true, beq_iff_eq] at h4
      exact ⟨e, by simpa using he, h4.1, h4.2⟩
  refine region_inv hmix (fun L a' w' => J a L a' w' ∧ ∀ j k, k ∈ l.getD j [] → L j = true → L k = true) (fun i o ho => (hall i o (by simpa using ho)).2.1) (fun L hL => ⟨h0 L (fun i hi => hL i (by simpa using hi)), fun j k hk hj => ?_⟩) (fun L a' w' hL hI => hend L hL a' w' hI.1) ?_
  · by_cases hlt : j < ops.length
    · rw [hL j (by simpa using hlt)] at hj; cases hj
    · rw [List.getD_eq_getElem?_getD, List.getElem?_eq_none (by omega)] at hk
      simp at hk
  · intro L i o ho hLi hd a' w' hI K' hK'
    have ho' : ops[i]? = some o := by simpa using ho
    obtain ⟨hg, _, he⟩ := hall i o ho'
    rw [if_pos (by unfold Region.wanted; rw [hg])]
    have hdl : ∀ k, k ∈ l.getD i [] → L k = true := fun k hk => by
      obtain ⟨e, h1, h2, h3⟩ := he k hk
      rw [← h2]
      exact hd e h1 h3
    have := hs.at_ ho' L (by rw [Nat.zero_add]; exact hLi) (by rw [Nat.zero_add]; exact hdl) hI.2 a' w' hI.1 K'
    rw [Nat.zero_add] at this
    refine this fun a2 w2 h2 => hK' a2 w2 ⟨h2, fun j k hk hj => ?_⟩
    have hup : ∀ k, L k = true → updL L i k = true := fun k hk => by
      unfold updL
      split
      · rfl
      · exact hk
    by_cases e : j = i
    · subst e; exact hup k (hdl k hk)
    · refine hup k (hI.2 j k hk ?_)
      unfold updL at hj
      rwa [if_neg e] at hj
/-- A frame in which slots are laid anew. -/
def lay (a : Act) : List (Nat × Value) → Act
  | [] => a
  | x :: xs => lay (a.put (some x.1) x.2) xs
end Go.Proofs.YtnfkhakgikbbeaaGreat

namespace Go.Proofs.YtnfkhakgikbbeaaGreat
open Go.ChangeShapes Go.WideShapes Go.ChangeAt Go.RowKit

theorem all_listed2 {md : Region.Mode} {ops : Array Oper} {listed : Array Bool} (hs : listed.size = ops.size) (hac : ∀ (i : Nat) (o : Oper), ops[i]? = some o → ∀ e : Edge, e ∈ o.after → Region.binds md e = true → e.on < i) (hr : Region.ready md ops listed = []) : ∀ i, listed.getD i true = true := by
  intro i
  induction i using Nat.strongRecOn with
  | ind i ih =>
    by_cases hlt : i < ops.size
    · cases hb : listed.getD i true with
      | true => rfl
      | false =>
        exfalso
        have hm : i ∈ Region.ready md ops listed := by
          unfold Region.ready
          refine List.mem_filter.2 ⟨List.mem_range.2 hlt, ?_⟩
          have ho : ops[i]? = some ops[i] := Array.getElem?_eq_getElem hlt
          simp only [Bool.and_eq_true, Bool.not_eq_true', hb, true_and]
          rw [ho]
          simp only [Option.map_some, Option.getD_some]
          rw [Array.all_eq_true_iff_forall_mem]
          intro e he
          cases hbd : Region.binds md e with
          | false => simp
          | true =>
            have h1 := ih e.on (hac i _ ho e he hbd)
            have h2 : e.on < listed.size := by have := hac i _ ho e he hbd; omega
            have h3 : listed.getD e.on false = true := by
              simp [Array.getD, h2] at h1 ⊢
              exact h1
            rw [h3]; simp
        rw [hr] at hm
        cases hm
    · simp [Array.getD, show ¬ i < listed.size by omega]

/-- A region that draws its order: an invariant over what has run. -/
theorem region_inv2 {P : Program} {id : Nat} {ops : Array Oper} {Q : Exit → Act → World → Prop} {a : Act} {w : World} (hmix : P.follows .mixedOrders = true) (I : (Nat → Bool) → Act → World → Prop)
    (hac : ∀ (i : Nat) (o : Oper), ops[i]? = some o → ∀ e : Edge, e ∈ o.after → Region.binds .any e = true → e.on < i)
    (h0 : ∀ L : Nat → Bool, (∀ i, i < ops.size → L i = false) → I L a w.drew)
    (hend : ∀ (L : Nat → Bool) a w, (∀ i, L i = true) → I L a w → Q .normal a w)
    (hstep : ∀ (L : Nat → Bool) (i : Nat) (o : Oper), ops[i]? = some o → L i = false → (∀ e : Edge, e ∈ o.after → Region.binds .any e = true → L e.on = true) → ∀ a w, I L a w → ∀ K' : Act → World → Prop, (∀ a' w', I (updL L i) a' w' → K' a' w') → if Region.wanted o (yielded ops a.tmps) = true then Oper.wp P o a w K' Q else K' (a.put o.dst undef) w) :
    (Code.region id ops true).wp P Q a w := by
  refine wp_region_any hmix ?_
  have key : ∀ (fuel : Nat) (listed : Array Bool) (a : Act) (w : World), listed.size = ops.size → leftO listed ≤ fuel → I (fun j => listed.getD j true) a w → wpAny P .any ops Q fuel listed a w := by
    intro fuel
    induction fuel with
    | zero =>
      intro listed a w hs hl hI
      have hr := leftO_zero (md := .any) (ops := ops) (listed := listed) (by omega)
      exact ⟨hr, hend _ a w (all_listed2 hs hac hr) hI⟩
    | succ fuel ih =>
      intro listed a w hs hl hI
      refine ⟨fun hr => hend _ a w (all_listed2 hs hac hr) hI, fun i hi => ?_⟩
      unfold Region.ready at hi
      obtain ⟨hi1, hi2⟩ := List.mem_filter.1 hi
      have hlt := List.mem_range.1 hi1
      have ho : ops[i]? = some ops[i] := Array.getElem?_eq_getElem hlt
      simp only [Bool.and_eq_true, Bool.not_eq_true'] at hi2
      obtain ⟨hu, hd⟩ := hi2
      rw [ho] at hd
      simp only [Option.map_some, Option.getD_some] at hd
      rw [Array.all_eq_true_iff_forall_mem] at hd
      refine wpOp_step ho fun K' hK' => hstep (fun j => listed.getD j true) i _ ho hu (fun e he hb => ?_) a w hI K' fun a' w' hI' => hK' a' w' (ih _ a' w' (by simp [hs]) (by have := leftO_set hu; omega) ?_)
      · have h1 := hd e he
        rw [hb] at h1
        simp only [Bool.not_true, Bool.false_or] at h1
        have h2 : e.on < listed.size := by have := hac i _ ho e he hb; omega
        simp [Array.getD, h2] at h1 ⊢
        exact h1
      · have e : (fun j => (listed.setIfInBounds i true).getD j true) = updL (fun j => listed.getD j true) i := funext fun j => getD_set
        rw [e]; exact hI'
  refine key _ _ _ _ (by simp) ?_ ?_
  · unfold leftO
    refine Nat.le_trans List.countP_le_length ?_
    simp
  · exact h0 _ fun i hi => by simp [Array.getD, hi]
/-- The edges that are told stand in the text. -/
def edgesOk2 (l : List (List Nat)) (ops : List Oper) : Bool := decide (l.length ≤ ops.length) && (List.range ops.length).all fun i => match ops[i]? with
  | some o => o.guard.isNone && (o.after.toList.all (fun e => !Region.binds .any e || decide (e.on < i)) && (l.getD i []).all fun k => o.after.toList.any fun e => e.on == k && Region.binds .any e)
  | none => true
theorem region_steps2 {P : Program} {id : Nat} {ops : List Oper} {Q : Exit → Act → World → Prop} {a : Act} {w : World} (J : Act → (Nat → Bool) → Act → World → Prop) (l : List (List Nat)) (hmix : P.follows .mixedOrders = true) (hok : edgesOk2 l ops = true)
    (h0 : ∀ L : Nat → Bool, (∀ i, i < ops.length → L i = false) → J a L a w.drew)
    (hs : StepsI P Q (J a) l 0 ops)
    (hend : ∀ L : Nat → Bool, (∀ i, L i = true) → ∀ a' w', J a L a' w' → Q .normal a' w') :
    (Code.region id ops.toArray true).wp P Q a w := by
  unfold edgesOk2 at hok
  rw [Bool.and_eq_true] at hok
  have hlen := of_decide_eq_true hok.1
  have hall : ∀ (i : Nat) (o : Oper), ops[i]? = some o → o.guard = none ∧ (∀ e : Edge, e ∈ o.after → Region.binds .any e = true → e.on < i) ∧ ∀ k, k ∈ l.getD i [] → ∃ e : Edge, e ∈ o.after ∧ e.on = k ∧ Region.binds .any e = true := by
    intro i o ho
    have hi : i < ops.length := (List.getElem?_eq_some_iff.1 ho).1
    have := List.all_eq_true.1 hok.2 i (List.mem_range.2 hi)
    rw [ho] at this
    simp only [Bool.and_eq_true] at this
    obtain ⟨h1, h2, h3⟩ := this
    have h1' : o.guard = none := by
      cases hg : o.guard with
      | none => rfl
      | some x => rw [hg] at h1; cases h1
    refine ⟨h1', fun e he hb => ?_, fun k hk => ?_⟩
    · have := List.all_eq_true.1 h2 e (by simpa using he)
      rw [hb] at this
      simpa using this
    · obtain ⟨e, he, h4⟩ := List.any_eq_true.1 (List.all_eq_true.1 h3 k hk)
      rw [Bool.and_eq_true, beq_iff_eq] at h4
      exact ⟨e, by simpa using he, h4.1, h4.2⟩
  refine region_inv2 hmix (fun L a' w' => J a L a' w' ∧ ∀ j k, k ∈ l.getD j [] → L j = true → L k = true) (fun i o ho => (hall i o (by simpa using ho)).2.1) (fun L hL => ⟨h0 L (fun i hi => hL i (by simpa using hi)), fun j k hk hj => ?_⟩) (fun L a' w' hL hI => hend L hL a' w' hI.1) ?_
  · by_cases hlt : j < ops.length
    · rw [hL j (by simpa using hlt)] at hj; cases hj
    · rw [List.getD_eq_getElem?_getD, List.getElem?_eq_none (by omega)] at hk
      simp at hk
  · intro L i o ho hLi hd a' w' hI K' hK'
    have ho' : ops[i]? = some o := by simpa using ho
    obtain ⟨hg, _, he⟩ := hall i o ho'
    rw [if_pos (by unfold Region.wanted; rw [hg])]
    have hdl : ∀ k, k ∈ l.getD i [] → L k = true := fun k hk => by
      obtain ⟨e, h1, h2, h3⟩ := he k hk
      rw [← h2]
      exact hd e h1 h3
    have := hs.at_ ho' L (by rw [Nat.zero_add]; exact hLi) (by rw [Nat.zero_add]; exact hdl) hI.2 a' w' hI.1 K'
    rw [Nat.zero_add] at this
    refine this fun a2 w2 h2 => hK' a2 w2 ⟨h2, fun j k hk hj => ?_⟩
    have hup : ∀ k, L k = true → updL L i k = true := fun k hk => by
      unfold updL
      split
      · rfl
      · exact hk
    by_cases e : j = i
    · subst e; exact hup k (hdl k hk)
    · refine hup k (hI.2 j k hk ?_)
      unfold updL at hj
      rwa [if_neg e] at hj
end Go.Proofs.YtnfkhakgikbbeaaGreat

namespace Go.Proofs.YtnfkhakgikbbeaaGreat
open Go.ChangeShapes Go.WideShapes Go.ChangeAt Go.RowKit

/-- Lists of ints, each with a head. -/
def RdS (w : World) (B : Nat) (A : Option Addr) (n : Nat) (r : Nat → Lst) : Prop :=
  0 < n → ∃ b off, A = some ⟨b, off, none⟩ ∧ b < B ∧ ∀ i, i < n → ∃ a ci, w.cell? ⟨b, off + i, none⟩ = some (.slice (some a) (r i).n ci) ∧ RdI w B (some a) (r i).n (r i).x
section
variable {w w' : World} {B B' hi n k : Nat} {A : Option Addr} {r : Nat → Lst} {ov : Value} {xs : List Value} {f : Nat → Nat}
theorem RdS.below (h : RdS w B A n r) (hb : Below B w w') : RdS w' B A n r := fun hn => by
  obtain ⟨b, off, e, hlt, hc⟩ := h hn
  refine ⟨b, off, e, hlt, fun i hi => ?_⟩
  obtain ⟨a, ci, h1, h3⟩ := hc i hi
  exact ⟨a, ci, (hb.cell (p := ⟨b, _, none⟩) hlt).trans h1, h3.below hb⟩
theorem RdS.more (h : RdS w B A n r) (hB : B ≤ B') : RdS w B' A n r := fun hn => by
  obtain ⟨b, off, e, hlt, hc⟩ := h hn
  refine ⟨b, off, e, by omega, fun i hi => ?_⟩
  obtain ⟨a, ci, h1, h3⟩ := hc i hi
  exact ⟨a, ci, h1, h3.more hB⟩
theorem RdS.later (h : RdS w w.heap.size A n r) (hb : Below w.heap.size w w') : RdS w' w'.heap.size A n r := (h.below hb).more hb.size
/-- Lists that are not empty have heads. -/
theorem GrwL.rdS (h : GrwL w B hi ov k xs r f) (hp : ∀ i, i < k → (r i).n ≠ 0) : ∃ A cap, ov = .slice A k cap ∧ FrL w B A k r ∧ RdS w w.heap.size A k r := by
  obtain ⟨A, cap, e, hF⟩ := h.fin
  refine ⟨A, cap, e, hF, fun hk => ?_⟩
  rcases h.own.2 with ⟨_, h0⟩ | ⟨g, cap', cur, e', hg, hh, hnc, _, hsz, htk⟩
  · omega
  · rw [e] at e'
    cases e'
    refine ⟨g, 0, rfl, lblock_lt hh, fun i hi => ?_⟩
    obtain ⟨Ai, ci, h1, h3⟩ := h.els i hi
    rcases h3 with h0 | ⟨rfl, _, _, h4⟩
    · exact absurd h0 (hp i hi)
    · refine ⟨_, ci, ?_, h4.rdAt⟩
      rw [Nat.zero_add]
      rw [← htk, List.getElem?_take_of_lt (by omega)] at h1
      exact (cell_of_row w g _ cur _ _ hh).trans (by simpa using h1)
/-- The list of the empty list. -/
theorem rdS_lit (w : World) (r : Nat → Lst) (h0 : (r 0).n = 0) : RdS ((w.alloc (.cells #[] 3)).alloc (.cells #[.slice (some ⟨w.heap.size, 0, none⟩) 0 0] 24)) ((w.alloc (.cells #[] 3)).alloc (.cells #[.slice (some ⟨w.heap.size, 0, none⟩) 0 0] 24)).heap.size (some ⟨w.heap.size + 1, 0, none⟩) 1 r ∧ FrL ((w.alloc (.cells #[] 3)).alloc (.cells #[.slice (some ⟨w.heap.size, 0, none⟩) 0 0] 24)) w.heap.size (some ⟨w.heap.size + 1, 0, none⟩) 1 r := by
  have hn := heap_alloc_new (w.alloc (.cells #[] 3)) (.cells #[.slice (some ⟨w.heap.size, 0, none⟩) 0 0] 24)
  rw [World.size_alloc] at hn
  refine ⟨fun _ => ⟨w.heap.size + 1, 0, rfl, by simp, fun i hi => ?_⟩, ⟨fun _ => 0, ⟨.inr ⟨_, _, rfl, hn, fun i hi => ?_⟩, fun i hi => ?_, fun i j hi hj h1 => ?_⟩, fun b hb => ?_⟩⟩
  · obtain rfl : i = 0 := by omega
    rw [h0]
    exact ⟨_, 0, (cell_of_row _ _ _ _ _ _ hn).trans rfl, fun h => absurd h (by omega)⟩
  · obtain rfl : i = 0 := by omega
    exact ⟨some ⟨w.heap.size, 0, none⟩, 0, by rw [h0]; rfl, .inl h0⟩
  · obtain rfl : i = 0 := by omega
    exact .inl h0
  · obtain rfl : i = 0 := by omega
    exact absurd h0 h1
  · rcases hb with ⟨_, a, ha, rfl⟩ | ⟨i, hi, hz, _⟩
    · cases ha
      exact Nat.le_succ _
    · obtain rfl : i = 0 := by omega
      exact absurd h0 hz
end

theorem tfC {b : Bool} {P : Prop} (h : b = true) (h' : b = false) : P := by rw [h] at h'; cases h'
theorem row_shapeC {w : World} {B e s n : Nat} {v : Value} {xs : List Value} (h : w.ownsRow B e s v n xs) : ∃ A cap, v = .slice A n cap := by
  rcases h.2 with ⟨e1, h0⟩ | ⟨g, cap, cur, e1, _⟩
  · exact ⟨none, 0, by rw [e1, h0]⟩
  · exact ⟨_, cap, e1⟩
theorem intXs_succ (c : Nat → Int) (n : Nat) : intXs c (n + 1) = intXs c n ++ [.int .i64 (c n)] := by simp [intXs, List.range_succ]
theorem intXs_eq {c c' : Nat → Int} {n : Nat} (h : ∀ i, i < n → c i = c' i) : intXs c n = intXs c' n := by
  unfold intXs
  exact List.map_congr_left fun i hi => by rw [h i (List.mem_range.1 hi)]
theorem row_fri {w : World} {B n : Nat} {A : Option Addr} {cap : Nat} {c : Nat → Int} (h : w.ownsRow B 3 1 (.slice A n cap) n (intXs c n)) : FrI w B 3 A n c := by
  rcases h.2 with ⟨e1, h0⟩ | ⟨g, cap', cur, e1, hg, hh, hnc, _, hsz, htk⟩
  · exact .inl h0
  · cases e1
    refine .inr ⟨g, rfl, hg, cur, hh, by omega, fun i hi => ?_⟩
    have h1 := intXs_at c hi
    rw [← htk, List.getElem?_take_of_lt (by omega)] at h1
    simpa using h1
set_option maxRecDepth 100000 in
set_option maxHeartbeats 800000 in
/-- The append of a list that came in to an empty row of the call's own. -/
theorem wp_cpJ {o : Oper} {c : Act} {K : Act → World → Prop} {Q : Exit → Act → World → Prop} {W : World} (s x : Operand)
    (ho : o.op = .call { callee := .builtin .append, args := #[s, x], argTypes := #[24, 24] }) (hty : o.type = 24) {B0 : Nat} {v : Value} {n cap : Nat} {a : Addr} {y : Nat → Int} (hs : c.eval s = v) (hx : c.eval x = .slice (some a) n cap)
    (hown : W.ownsRow B0 3 1 v 0 []) (hr : RdI W W.heap.size (some a) n y) (hB : B0 ≤ W.heap.size) (hn : n ≤ 1048576)
    (h : ∀ A cap' w', w'.ownsRow B0 3 1 (.slice A n cap') n (intXs y n) → W.grownBy w' v.ownBlock → K (c.put o.dst (.slice A n cap')) w') :
    o.wp Tryz.prog c W K Q := by
  obtain ⟨i0, hi, hz0, hz1, hz2⟩ := info_parts Tryz.infoInt
  obtain ⟨v', w', k1, k2, k3, _, _⟩ := run_append_own_at (P := Tryz.prog) W B0 24 24 3 i0 _ 1 8 Tryz.underlying24 hi hz0 hz1 hz2 rfl (by omega) v 0 _ hown a n cap (intXs y n) (by rw [intXs_len]; omega) (intXs_src hr) (intXs_one y n) (by unfold maxLen; omega) (by omega) hB
  rw [Nat.zero_add, List.nil_append] at k2
  obtain ⟨A, cap', rfl⟩ := row_shapeC k2
  unfold Oper.wp execOp
  simp only [ho, hty, resolve, invoke, builtin, Sem.run_bind, Sem.run_pure, Result.andThen_ok, List.map_toArray, List.map_cons, List.map_nil, hs, hx, k1]
  exact h A cap' w' k2 k3
set_option maxRecDepth 100000 in
set_option maxHeartbeats 800000 in
/-- The append of one int to a row of the call's own. -/
theorem wp_addJ {o : Oper} {c : Act} {K : Act → World → Prop} {Q : Exit → Act → World → Prop} {W : World} (s x : Operand)
    (ho : o.op = .call { callee := .builtin .append, args := #[s, x], argTypes := #[24, 24] }) {B0 : Nat} {v : Value} {n H : Nat} {y : Nat → Int} {z : Int} {T' : TypeId} (hs : c.eval s = v) (hx : c.eval x = .slice (some ⟨H, 0, none⟩) 1 1)
    (hown : W.ownsRow B0 3 1 v n (intXs y n)) (hnew : W.heap[H]? = some (.cells #[.int .i64 z] T' (0, 0))) (hz : z = y n) (hB : B0 ≤ W.heap.size) (hn : n ≤ 1048576)
    (h : ∀ g cap' w', w'.ownsRow B0 3 1 (.slice (some ⟨g, 0, none⟩) (n + 1) cap') (n + 1) (intXs y (n + 1)) → W.grownBy w' v.ownBlock → K (c.put o.dst (.slice (some ⟨g, 0, none⟩) (n + 1) cap')) w') :
    o.wp Tryz.prog c W K Q := by
  obtain ⟨i0, hi, hz0, hz1, hz2⟩ := info_parts Tryz.infoInt
  refine wp_append_lies _ s x 24 ho B0 3 i0 _ 1 8 Tryz.underlying24 hi hz0 hz1 hz2 rfl (by omega) v n _ hs hown ⟨H, 0, none⟩ 1 1 [.int .i64 z] hx (by rfl)
    (World.news_of_block hnew) (by simp [Value.oneCell']) (by omega) (by unfold maxLen; omega) (by omega) hB W.heap.size rfl ?_
  intro g cap' w' hw hg _ _
  exact h g cap' w' (by rw [intXs_succ, ← hz]; exact hw) hg


/-- What is known while the operations of the region run: a list, copied, gets one more int and is appended. -/
structure F9 (wq : World) (V OV : Value) (k i : Nat) (pk pi : Value) (a : Addr) (ni ci : Nat) (x : Nat → Int) (SV : Value) (z0 z : Int) (y : Nat → Int) (m B : Nat) (R : Nat → Lst) (L : Nat → Bool) (w : World) (u5 u22 u23 u24 u25 u26 u27 u28 u29 u30 u31 u32 u33 u34 u35 u36 : Value) : Prop where
  bel : L 14 = false → Below wq.heap.size wq w
  t5 : L 15 = false → u5 = V
  b0 : L 0 = true → u22 = V
  b1 : L 1 = true → ∃ p, u23 = .slice (some ⟨p, 0, none⟩) 0 0 ∧ wq.heap.size ≤ p ∧ p < w.heap.size ∧ (L 6 = false → w.heap[p]? = some (.cells #[] 3 (0, 0)))
  b2 : L 2 = true → u24 = OV
  b3 : L 3 = true → u25 = .int .i64 k
  b4 : L 4 = true → u26 = pk
  b5 : L 5 = true → u27 = .slice (some a) ni ci
  b6 : L 6 = true → ∃ A c, u28 = .slice A ni c ∧ (L 12 = false → w.ownsRow wq.heap.size 3 1 (.slice A ni c) ni (intXs x ni))
  b7 : L 7 = true → u29 = SV
  b8 : L 8 = true → u30 = .int .i64 i
  b9 : L 9 = true → u31 = pi
  b10 : L 10 = true → u32 = .int .i64 z0
  bAL : L 11 = true → ∃ p, u33 = .slice (some ⟨p, 0, none⟩) 1 1 ∧ (L 12 = false → w.heap[p]? = some (.cells #[.int .i64 z] 3 (0, 0)))
  bAP : L 12 = true → ∃ g c, u34 = .slice (some ⟨g, 0, none⟩) (ni + 1) c ∧ (L 14 = false → w.ownsRow wq.heap.size 3 1 (.slice (some ⟨g, 0, none⟩) (ni + 1) c) (ni + 1) (intXs y (ni + 1)))
  bAH : L 13 = true → ∃ p, u35 = .slice (some ⟨p, 0, none⟩) 1 1 ∧ (L 14 = false → w.heap[p]? = some (.cells #[u34] 24 (0, 0)))
  bAV : L 14 = true → ∃ gg c zs f', u36 = .slice (some ⟨gg, 0, none⟩) (m + 1) c ∧ GrwL w B w.heap.size u36 (m + 1) zs R f' ∧ Below B wq w
  bAS : L 15 = true → u5 = u36

/-- What is known while the operations of the region run: a list, copied, gets one more int and is appended. -/
structure F10 (wq : World) (V OV : Value) (k i : Nat) (pk pi : Value) (a : Addr) (ni ci : Nat) (x : Nat → Int) (SV : Value) (z0 z : Int) (y : Nat → Int) (m B : Nat) (R : Nat → Lst) (L : Nat → Bool) (w : World) (u5 u37 u38 u39 u40 u41 u42 u43 u44 u45 u46 u47 u48 u49 u50 u51 u52 : Value) : Prop where
  bel : L 15 = false → Below wq.heap.size wq w
  t5 : L 16 = false → u5 = V
  b0 : L 0 = true → u37 = V
  b1 : L 1 = true → ∃ p, u38 = .slice (some ⟨p, 0, none⟩) 0 0 ∧ wq.heap.size ≤ p ∧ p < w.heap.size ∧ (L 6 = false → w.heap[p]? = some (.cells #[] 3 (0, 0)))
  b2 : L 2 = true → u39 = OV
  b3 : L 3 = true → u40 = .int .i64 k
  b4 : L 4 = true → u41 = pk
  b5 : L 5 = true → u42 = .slice (some a) ni ci
  b6 : L 6 = true → ∃ A c, u43 = .slice A ni c ∧ (L 13 = false → w.ownsRow wq.heap.size 3 1 (.slice A ni c) ni (intXs x ni))
  b7 : L 7 = true → u44 = SV
  b8 : L 8 = true → u45 = .int .i64 i
  b9 : L 9 = true → u46 = pi
  b10 : L 10 = true → u47 = .int .i64 z0
  b11 : L 11 = true → u48 = .int .i64 z
  bAL : L 12 = true → ∃ p, u49 = .slice (some ⟨p, 0, none⟩) 1 1 ∧ (L 13 = false → w.heap[p]? = some (.cells #[.int .i64 z] 3 (0, 0)))
  bAP : L 13 = true → ∃ g c, u50 = .slice (some ⟨g, 0, none⟩) (ni + 1) c ∧ (L 15 = false → w.ownsRow wq.heap.size 3 1 (.slice (some ⟨g, 0, none⟩) (ni + 1) c) (ni + 1) (intXs y (ni + 1)))
  bAH : L 14 = true → ∃ p, u51 = .slice (some ⟨p, 0, none⟩) 1 1 ∧ (L 15 = false → w.heap[p]? = some (.cells #[u50] 24 (0, 0)))
  bAV : L 15 = true → ∃ gg c zs f', u52 = .slice (some ⟨gg, 0, none⟩) (m + 1) c ∧ GrwL w B w.heap.size u52 (m + 1) zs R f' ∧ Below B wq w
  bAS : L 16 = true → u5 = u52

set_option linter.unusedVariables false in
set_option maxRecDepth 100000 in
set_option maxHeartbeats 3200000 in
theorem l12Cubes_any (A : Option Addr) (n cap : Nat) (c : Nat → Int) (w : World) (hn : n ≤ 4) (hc : ∀ i, i < n → 1 ≤ c i ∧ c i ≤ 12) (hr : RdI w w.heap.size A n c) :
    Calls Tryz.prog 31 #[.slice A n cap] w fun e w' => ∃ A' cap', e = .returned (.slice A' (2 ^ n) cap') ∧ FrL w' w.heap.size A' (2 ^ n) (cbL c n) ∧ Below w.heap.size w w' := by
  have HC := Lib.hid hc
  have HR := Lib.hid hr
  have hlit := rdS_lit w (cbL c 0) rfl
  have HL := Lib.hid hlit
  clear hc hr hlit
  go_enter Tryz.func31, Tryz.ntmps31
  go_wp2
  go_loopw [3, 4] (fun ov ix wr => ∃ (i : Nat) (Ao : Option Addr) (co : Nat), i ≤ n ∧ ix = .int .i64 i ∧ ov = .slice Ao (2 ^ i) co ∧ RdS wr wr.heap.size Ao (2 ^ i) (cbL c i) ∧ FrL wr w.heap.size Ao (2 ^ i) (cbL c i) ∧ Below w.heap.size w wr) (fun _ ix _ => n - (intOf ix).toNat)
  case atStart => exact ⟨0, _, _, Nat.zero_le _, rfl, rfl, HL.out.1, HL.out.2, bl_alloc (bl_alloc (Below.refl _ _) _) _⟩
  case round =>
    obtain ⟨i, Ao, co, hi, rfl, rfl, hS, hF, hb⟩ := hrel
    have HS := Lib.hid hS
    have HF := Lib.hid hF
    have HB := Lib.hid hb
    clear hS hF hb HL
    by_cases hlt : i < n
    · have hltI : (i : Int) < (n : Int) := by omega
      have h4 : i ≤ 4 := by omega
      have h16 := pow16 h4
      obtain ⟨M, hM⟩ : ∃ M, 2 ^ i = M := ⟨_, rfl⟩
      have HM := Lib.hid hM
      rw [hM] at HS HF h16 ⊢
      clear hM HF
      have HG0 := Lib.hid (grl_lit wr wr.heap.size (cbL c (i + 1)) (fun _ => 0))
      have HA0 := Lib.hid (bl_alloc (Below.refl wr.heap.size wr) (.cells #[] 24))
      obtain ⟨wo, hwo⟩ : ∃ wo : World, wo = wr := ⟨wr, rfl⟩
      subst hwo
      go_wp2
      go_loopw [5, 6] (fun ov ix wq => ∃ (k hi : Nat) (xs : List Value) (f : Nat → Nat), k ≤ M ∧ ix = .int .i64 k ∧ GrwL wq wo.heap.size hi ov (2 * k) xs (cbL c (i + 1)) f ∧ wo.heap.size ≤ hi ∧ hi ≤ wq.heap.size ∧ Below wo.heap.size wo wq) (fun _ ix _ => M - (intOf ix).toNat)
      case atStart => exact ⟨0, wo.heap.size, [], fun _ => 0, Nat.zero_le _, rfl, HG0.out, Nat.le_refl _, by simp, HA0.out⟩
      case round =>
        obtain ⟨k, hi', xs, f, hk, rfl, hg, h1, h2, hb⟩ := hrel
        have HG := Lib.hid hg
        have HBq := Lib.hid hb
        clear hg hb HG0 HA0
        by_cases hlk : k < M
        · skip
          go_upto_region 9 with fail
          have hI1 : i ≤ 1048576 := by omega
          have hM1 : 2 * k ≤ 10000 := by omega
          have hM2 : 2 * k + 1 ≤ 10000 := by omega
          have hkI : (k : Int) < (M : Int) := by omega
          have hk0 : (0 : Int) ≤ (k : Int) := by omega
          have hi0 : (0 : Int) ≤ (i : Int) := by omega
          have Hyz := Lib.hid (show c i = (cbL c (i + 1) (2 * k)).x i from cb_pos.symm)
          have Hyn := Lib.hid (show -(c i) = (cbL c (i + 1) (2 * k + 1)).x i from cb_neg.symm)
          have Hxy := Lib.hid (intXs_eq (c := (cbL c i k).x) (c' := (cbL c (i + 1) (2 * k)).x) (n := i) fun j hj => (cb_old (b := 0) (by omega) hj).symm)
          have Hxn := Lib.hid (intXs_eq (c := (cbL c i k).x) (c' := (cbL c (i + 1) (2 * k + 1)).x) (n := i) fun j hj => (cb_old (b := 1) (by omega) hj).symm)
          have hci := HC.out i hlt
          have hw1 : wrap64 (-(c i)) = -(c i) := IntWalk.i64_left _ ▸ IntWalk.i64_in _ (by omega)
          have hw2 : IntKind.i64.wrap (-(c i)) = -(c i) := IntWalk.i64_in _ (by omega)
          obtain ⟨bO, oO, eO, hbO, hcO⟩ := (HS.out.below HBq.out) (by omega)
          cases eO
          obtain ⟨aK, cK, hK1, hK2⟩ := hcO k hlk
          obtain ⟨bV, oV, eV, hbV, hcV⟩ := (HR.out.later (bl_trans HB.out HBq.out)) (by omega)
          cases eV
          have hV1 := hcV i hlt
          have HK1 := Lib.hid hK1
          have HK2 := Lib.hid (hK2.more HBq.out.size)
          have HV1 := Lib.hid hV1
          clear hcO hcV hK1 hK2 hV1
          clear hci
          obtain ⟨wq, hwq⟩ : ∃ wq : World, wq = wr := ⟨wr, rfl⟩
          subst hwq
          obtain ⟨u5', hu5⟩ : ∃ u5' : Value, u5' = u5 := ⟨u5, rfl⟩
          subst hu5
          refine region_steps2 (J := fun _ L a' w' => ∃ u5 u22 u23 u24 u25 u26 u27 u28 u29 u30 u31 u32 u33 u34 u35 u36 : Value, a' = ⟨#[.slice (some ⟨bV, oV, none⟩) n cap, undef, .slice none 0 0, .slice (some ⟨bO, oO, none⟩) M co, .int .i64 i, u5, .int .i64 k, .slice (some ⟨w.heap.size, 0, none⟩) 0 0, .slice (some ⟨w.heap.size + 1, 0, none⟩) 1 1, .int .i64 i, .slice (some ⟨bV, oV, none⟩) n cap, .int .i64 n, .bool true, u13, u14, .slice (some ⟨wo.heap.size, 0, none⟩) 0 0, .int .i64 k, .slice (some ⟨bO, oO, none⟩) M co, .int .i64 M, .bool true, u20, u21, u22, u23, u24, u25, u26, u27, u28, u29, u30, u31, u32, u33, u34, u35, u36, u37, u38, u39, u40, u41, u42, u43, u44, u45, u46, u47, u48, u49, u50, u51, u52, u53, undef], []⟩ ∧ F9 wq u5' (.slice (some ⟨bO, oO, none⟩) M co) k i (.pointer (some ⟨bO, oO + k, none⟩)) (.pointer (some ⟨bV, oV + i, none⟩)) aK i cK (cbL c i k).x (.slice (some ⟨bV, oV, none⟩) n cap) (c i) (c i) (cbL c (i + 1) (2 * k)).x (2 * k) wo.heap.size (cbL c (i + 1)) L w' u5 u22 u23 u24 u25 u26 u27 u28 u29 u30 u31 u32 u33 u34 u35 u36) [[], [], [], [], [2, 3], [4], [1, 5], [], [], [7, 8], [9], [10], [6, 11], [12], [0, 13], [0, 1, 2, 3, 4, 5, 6, 7, 8, 9, 10, 11, 12, 13, 14]] (by kernel_rfl) (by kernel_rfl) ?_ ⟨?_, ?_, ?_, ?_, ?_, ?_, ?_, ?_, ?_, ?_, ?_, ?_, ?_, ?_, ?_, ?_, trivial⟩ ?_
          · intro L hL
            exact ⟨_, _, _, _, _, _, _, _, _, _, _, _, _, _, _, _, rfl, ⟨fun _ => (Below.refl wq.heap.size wq).drew, fun _ => rfl, fun h => tfC h (hL 0 (by decide)), fun h => tfC h (hL 1 (by decide)), fun h => tfC h (hL 2 (by decide)), fun h => tfC h (hL 3 (by decide)), fun h => tfC h (hL 4 (by decide)), fun h => tfC h (hL 5 (by decide)), fun h => tfC h (hL 6 (by decide)), fun h => tfC h (hL 7 (by decide)), fun h => tfC h (hL 8 (by decide)), fun h => tfC h (hL 9 (by decide)), fun h => tfC h (hL 10 (by decide)), fun h => tfC h (hL 11 (by decide)), fun h => tfC h (hL 12 (by decide)), fun h => tfC h (hL 13 (by decide)), fun h => tfC h (hL 14 (by decide)), fun h => tfC h (hL 15 (by decide))⟩⟩
          · intro L hL hd hc a w hI K' hK'
            obtain ⟨u5, u22, u23, u24, u25, u26, u27, u28, u29, u30, u31, u32, u33, u34, u35, u36, rfl, hF⟩ := hI
            have hs : L 15 = false := by
              cases h : L 15 with
              | false => rfl
              | true => exact tfC (hc 15 0 (by simp) h) hL
            go_simp
            refine hK' _ _ ⟨_, _, _, _, _, _, _, _, _, _, _, _, _, _, _, _, rfl, ⟨hF.bel, hF.t5, fun _ => hF.t5 hs, hF.b1, hF.b2, hF.b3, hF.b4, hF.b5, hF.b6, hF.b7, hF.b8, hF.b9, hF.b10, hF.bAL, hF.bAP, hF.bAH, hF.bAV, hF.bAS⟩⟩
          · intro L hL hd hc a w hI K' hK'
            obtain ⟨u5, u22, u23, u24, u25, u26, u27, u28, u29, u30, u31, u32, u33, u34, u35, u36, rfl, hF⟩ := hI
            have hn : L 14 = false := by
              cases h : L 14 with
              | false => rfl
              | true => exact tfC (hc 6 1 (by simp) (hc 12 6 (by simp) (hc 13 12 (by simp) (hc 14 13 (by simp) h)))) hL
            go_simp
            refine hK' _ _ ⟨_, _, _, _, _, _, _, _, _, _, _, _, _, _, _, _, rfl, ⟨fun _ => bl_alloc (hF.bel hn) _, hF.t5, hF.b0, fun _ => ⟨_, rfl, (hF.bel hn).size, by simp, fun _ => heap_alloc_new _ _⟩, hF.b2, hF.b3, hF.b4, hF.b5, fun h => tfC (hc 6 1 (by simp) h) hL, hF.b7, hF.b8, hF.b9, hF.b10, fun h => by obtain ⟨p, e, h1⟩ := hF.bAL h; exact ⟨p, e, fun h2 => ((bl_alloc (Below.refl w.heap.size w) _).block p (lblock_lt (h1 h2))).trans (h1 h2)⟩, fun h => tfC (hc 6 1 (by simp) (hc 12 6 (by simp) h)) hL, fun h => tfC (hc 6 1 (by simp) (hc 12 6 (by simp) (hc 13 12 (by simp) h))) hL, fun h => tfC (hc 6 1 (by simp) (hc 12 6 (by simp) (hc 13 12 (by simp) (hc 14 13 (by simp) h)))) hL, hF.bAS⟩⟩
          · intro L hL hd hc a w hI K' hK'
            obtain ⟨u5, u22, u23, u24, u25, u26, u27, u28, u29, u30, u31, u32, u33, u34, u35, u36, rfl, hF⟩ := hI
            go_simp
            refine hK' _ _ ⟨_, _, _, _, _, _, _, _, _, _, _, _, _, _, _, _, rfl, ⟨hF.bel, hF.t5, hF.b0, hF.b1, fun _ => rfl, hF.b3, hF.b4, hF.b5, hF.b6, hF.b7, hF.b8, hF.b9, hF.b10, hF.bAL, hF.bAP, hF.bAH, hF.bAV, hF.bAS⟩⟩
          · intro L hL hd hc a w hI K' hK'
            obtain ⟨u5, u22, u23, u24, u25, u26, u27, u28, u29, u30, u31, u32, u33, u34, u35, u36, rfl, hF⟩ := hI
            go_simp
            refine hK' _ _ ⟨_, _, _, _, _, _, _, _, _, _, _, _, _, _, _, _, rfl, ⟨hF.bel, hF.t5, hF.b0, hF.b1, hF.b2, fun _ => rfl, hF.b4, hF.b5, hF.b6, hF.b7, hF.b8, hF.b9, hF.b10, hF.bAL, hF.bAP, hF.bAH, hF.bAV, hF.bAS⟩⟩
          · intro L hL hd hc a w hI K' hK'
            obtain ⟨u5, u22, u23, u24, u25, u26, u27, u28, u29, u30, u31, u32, u33, u34, u35, u36, rfl, hF⟩ := hI
            obtain rfl := hF.b2 (hd 2 (by simp))
            obtain rfl := hF.b3 (hd 3 (by simp))
            go_simp
            refine hK' _ _ ⟨_, _, _, _, _, _, _, _, _, _, _, _, _, _, _, _, rfl, ⟨hF.bel, hF.t5, hF.b0, hF.b1, hF.b2, hF.b3, fun _ => rfl, hF.b5, hF.b6, hF.b7, hF.b8, hF.b9, hF.b10, hF.bAL, hF.bAP, hF.bAH, hF.bAV, hF.bAS⟩⟩
          · intro L hL hd hc a w hI K' hK'
            obtain ⟨u5, u22, u23, u24, u25, u26, u27, u28, u29, u30, u31, u32, u33, u34, u35, u36, rfl, hF⟩ := hI
            have hn : L 14 = false := by
              cases h : L 14 with
              | false => rfl
              | true => exact tfC (hc 6 5 (by simp) (hc 12 6 (by simp) (hc 13 12 (by simp) (hc 14 13 (by simp) h)))) hL
            obtain rfl := hF.b4 (hd 4 (by simp))
            have z := kc (hF.bel hn) HK1.out
            go_simp
            refine hK' _ _ ⟨_, _, _, _, _, _, _, _, _, _, _, _, _, _, _, _, rfl, ⟨hF.bel, hF.t5, hF.b0, hF.b1, hF.b2, hF.b3, hF.b4, fun _ => rfl, hF.b6, hF.b7, hF.b8, hF.b9, hF.b10, hF.bAL, hF.bAP, hF.bAH, hF.bAV, hF.bAS⟩⟩
          · intro L hL hd hc a w hI K' hK'
            obtain ⟨u5, u22, u23, u24, u25, u26, u27, u28, u29, u30, u31, u32, u33, u34, u35, u36, rfl, hF⟩ := hI
            have hn : L 14 = false := by
              cases h : L 14 with
              | false => rfl
              | true => exact tfC (hc 12 6 (by simp) (hc 13 12 (by simp) (hc 14 13 (by simp) h))) hL
            obtain ⟨p, rfl, p1, p2, p3⟩ := hF.b1 (hd 1 (by simp))
            obtain rfl := hF.b5 (hd 5 (by simp))
            have hp := p3 hL
            refine wp_cpJ (B0 := wq.heap.size) _ _ (by rfl) (by rfl) (by rfl) (by rfl) ⟨rfl, .inr ⟨p, 0, #[], rfl, p1, hp, Nat.le_refl _, by unfold maxLen; omega, rfl, rfl⟩⟩ (HK2.out.later (hF.bel hn)) (hF.bel hn).size hI1 ?_
            intro A c8 wv how hgr
            have hsz := hgr.size
            refine hK' _ _ ⟨_, _, _, _, _, _, _, _, _, _, _, _, _, _, _, _, rfl, ⟨fun _ => (hF.bel hn).grown hgr (hF.bel hn).size (fun j e => by cases e; exact p1), hF.t5, hF.b0, fun _ => ⟨p, rfl, p1, by omega, fun h => tfC (show true = true from rfl) h⟩, hF.b2, hF.b3, hF.b4, hF.b5, fun _ => ⟨A, c8, rfl, fun _ => how⟩, hF.b7, hF.b8, hF.b9, hF.b10, fun h => by obtain ⟨q, e, h1⟩ := hF.bAL h; exact ⟨q, e, fun h2 => (hgr.block q (lblock_lt (h1 h2)) (by intro e'; simp only [Value.ownBlock, Option.some.injEq] at e'; subst e'; have := (h1 h2).symm.trans hp; cases this)).trans (h1 h2)⟩, fun h => tfC (hc 12 6 (by simp) h) hL, fun h => tfC (hc 12 6 (by simp) (hc 13 12 (by simp) h)) hL, fun h => tfC (hc 12 6 (by simp) (hc 13 12 (by simp) (hc 14 13 (by simp) h))) hL, hF.bAS⟩⟩
          · intro L hL hd hc a w hI K' hK'
            obtain ⟨u5, u22, u23, u24, u25, u26, u27, u28, u29, u30, u31, u32, u33, u34, u35, u36, rfl, hF⟩ := hI
            go_simp
            refine hK' _ _ ⟨_, _, _, _, _, _, _, _, _, _, _, _, _, _, _, _, rfl, ⟨hF.bel, hF.t5, hF.b0, hF.b1, hF.b2, hF.b3, hF.b4, hF.b5, hF.b6, fun _ => rfl, hF.b8, hF.b9, hF.b10, hF.bAL, hF.bAP, hF.bAH, hF.bAV, hF.bAS⟩⟩
          · intro L hL hd hc a w hI K' hK'
            obtain ⟨u5, u22, u23, u24, u25, u26, u27, u28, u29, u30, u31, u32, u33, u34, u35, u36, rfl, hF⟩ := hI
            go_simp
            refine hK' _ _ ⟨_, _, _, _, _, _, _, _, _, _, _, _, _, _, _, _, rfl, ⟨hF.bel, hF.t5, hF.b0, hF.b1, hF.b2, hF.b3, hF.b4, hF.b5, hF.b6, hF.b7, fun _ => rfl, hF.b9, hF.b10, hF.bAL, hF.bAP, hF.bAH, hF.bAV, hF.bAS⟩⟩
          · intro L hL hd hc a w hI K' hK'
            obtain ⟨u5, u22, u23, u24, u25, u26, u27, u28, u29, u30, u31, u32, u33, u34, u35, u36, rfl, hF⟩ := hI
            obtain rfl := hF.b7 (hd 7 (by simp))
            obtain rfl := hF.b8 (hd 8 (by simp))
            go_simp
            refine hK' _ _ ⟨_, _, _, _, _, _, _, _, _, _, _, _, _, _, _, _, rfl, ⟨hF.bel, hF.t5, hF.b0, hF.b1, hF.b2, hF.b3, hF.b4, hF.b5, hF.b6, hF.b7, hF.b8, fun _ => rfl, hF.b10, hF.bAL, hF.bAP, hF.bAH, hF.bAV, hF.bAS⟩⟩
          · intro L hL hd hc a w hI K' hK'
            obtain ⟨u5, u22, u23, u24, u25, u26, u27, u28, u29, u30, u31, u32, u33, u34, u35, u36, rfl, hF⟩ := hI
            have hn : L 14 = false := by
              cases h : L 14 with
              | false => rfl
              | true => exact tfC (hc 11 10 (by simp) (hc 12 11 (by simp) (hc 13 12 (by simp) (hc 14 13 (by simp) h)))) hL
            obtain rfl := hF.b9 (hd 9 (by simp))
            have z := kc (hF.bel hn) HV1.out
            go_simp
            refine hK' _ _ ⟨_, _, _, _, _, _, _, _, _, _, _, _, _, _, _, _, rfl, ⟨hF.bel, hF.t5, hF.b0, hF.b1, hF.b2, hF.b3, hF.b4, hF.b5, hF.b6, hF.b7, hF.b8, hF.b9, fun _ => rfl, hF.bAL, hF.bAP, hF.bAH, hF.bAV, hF.bAS⟩⟩
          · intro L hL hd hc a w hI K' hK'
            obtain ⟨u5, u22, u23, u24, u25, u26, u27, u28, u29, u30, u31, u32, u33, u34, u35, u36, rfl, hF⟩ := hI
            have hn : L 14 = false := by
              cases h : L 14 with
              | false => rfl
              | true => exact tfC (hc 12 11 (by simp) (hc 13 12 (by simp) (hc 14 13 (by simp) h))) hL
            obtain rfl := hF.b10 (hd 10 (by simp))
            go_simp
            refine hK' _ _ ⟨_, _, _, _, _, _, _, _, _, _, _, _, _, _, _, _, rfl, ⟨fun _ => bl_alloc (hF.bel hn) _, hF.t5, hF.b0, fun h => by obtain ⟨p, e, p1, p2, p3⟩ := hF.b1 h; exact ⟨p, e, p1, by simp; omega, fun h2 => ((bl_alloc (Below.refl w.heap.size w) _).block p p2).trans (p3 h2)⟩, hF.b2, hF.b3, hF.b4, hF.b5, fun h => by obtain ⟨A, c8, e, h1⟩ := hF.b6 h; exact ⟨A, c8, e, fun h2 => row_below' (h1 h2) (bl_alloc (Below.refl w.heap.size w) _)⟩, hF.b7, hF.b8, hF.b9, hF.b10, fun _ => ⟨_, rfl, fun _ => heap_alloc_new _ _⟩, fun h => tfC (hc 12 11 (by simp) h) hL, fun h => tfC (hc 12 11 (by simp) (hc 13 12 (by simp) h)) hL, fun h => tfC (hc 12 11 (by simp) (hc 13 12 (by simp) (hc 14 13 (by simp) h))) hL, hF.bAS⟩⟩
          · intro L hL hd hc a w hI K' hK'
            obtain ⟨u5, u22, u23, u24, u25, u26, u27, u28, u29, u30, u31, u32, u33, u34, u35, u36, rfl, hF⟩ := hI
            have hn : L 14 = false := by
              cases h : L 14 with
              | false => rfl
              | true => exact tfC (hc 13 12 (by simp) (hc 14 13 (by simp) h)) hL
            obtain ⟨A, c8, rfl, hA⟩ := hF.b6 (hd 6 (by simp))
            obtain ⟨p, rfl, hp⟩ := hF.bAL (hd 11 (by simp))
            refine wp_addJ (B0 := wq.heap.size) (y := (cbL c (i + 1) (2 * k)).x) _ _ (by rfl) (by rfl) (by rfl) (Hxy.out ▸ hA hL) (hp hL) Hyz.out (hF.bel hn).size hI1 ?_
            intro g c9 wv how hgr
            have hsz := hgr.size
            refine hK' _ _ ⟨_, _, _, _, _, _, _, _, _, _, _, _, _, _, _, _, rfl, ⟨fun _ => (hF.bel hn).grown hgr (hF.bel hn).size (fun j e => ((hA hL).lt j e).1), hF.t5, hF.b0, fun h => by obtain ⟨p, e, p1, p2, p3⟩ := hF.b1 h; exact ⟨p, e, p1, by omega, fun h6 => tfC (hd 6 (by simp)) h6⟩, hF.b2, hF.b3, hF.b4, hF.b5, fun _ => ⟨_, _, rfl, fun h => tfC (show true = true from rfl) h⟩, hF.b7, hF.b8, hF.b9, hF.b10, fun _ => ⟨_, rfl, fun h => tfC (show true = true from rfl) h⟩, fun _ => ⟨g, c9, rfl, fun _ => how⟩, fun h => tfC (hc 13 12 (by simp) h) hL, fun h => tfC (hc 13 12 (by simp) (hc 14 13 (by simp) h)) hL, hF.bAS⟩⟩
          · intro L hL hd hc a w hI K' hK'
            obtain ⟨u5, u22, u23, u24, u25, u26, u27, u28, u29, u30, u31, u32, u33, u34, u35, u36, rfl, hF⟩ := hI
            have hn : L 14 = false := by
              cases h : L 14 with
              | false => rfl
              | true => exact tfC (hc 14 13 (by simp) h) hL
            obtain ⟨g, c8, rfl, hA⟩ := hF.bAP (hd 12 (by simp))
            go_simp
            refine hK' _ _ ⟨_, _, _, _, _, _, _, _, _, _, _, _, _, _, _, _, rfl, ⟨fun _ => bl_alloc (hF.bel hn) _, hF.t5, hF.b0, fun h => by obtain ⟨p, e, p1, p2, p3⟩ := hF.b1 h; exact ⟨p, e, p1, by simp; omega, fun h6 => tfC (hc 12 6 (by simp) (hd 12 (by simp))) h6⟩, hF.b2, hF.b3, hF.b4, hF.b5, fun h => by obtain ⟨A, c8, e, h1⟩ := hF.b6 h; exact ⟨A, c8, e, fun h2 => tfC (hd 12 (by simp)) h2⟩, hF.b7, hF.b8, hF.b9, hF.b10, fun h => by obtain ⟨p, e, h1⟩ := hF.bAL h; exact ⟨p, e, fun h2 => tfC (hd 12 (by simp)) h2⟩, fun _ => ⟨g, c8, rfl, fun h => row_below' (hA h) (bl_alloc (Below.refl w.heap.size w) _)⟩, fun _ => ⟨_, rfl, fun _ => heap_alloc_new _ _⟩, fun h => tfC (hc 14 13 (by simp) h) hL, hF.bAS⟩⟩
          · intro L hL hd hc a w hI K' hK'
            obtain ⟨u5, u22, u23, u24, u25, u26, u27, u28, u29, u30, u31, u32, u33, u34, u35, u36, rfl, hF⟩ := hI
            obtain rfl := hF.b0 (hd 0 (by simp))
            obtain ⟨g, c8, rfl, hA⟩ := hF.bAP (hc 13 12 (by simp) (hd 13 (by simp)))
            obtain ⟨p, rfl, hp⟩ := hF.bAH (hd 13 (by simp))
            refine wp_grl1 (r := cbL c (i + 1)) (k := 2 * k) (A := some ⟨g, 0, none⟩) (cap := c8) _ _ (by rfl) (HG.out.below (hF.bel hL)) h1 (Nat.le_trans h2 (hF.bel hL).size) (by rfl) (by rfl) (by rw [(show cbL c (i + 1) (2 * k) = ⟨i + 1, (cbL c (i + 1) (2 * k)).x⟩ from rfl)]; exact hp hL) (by rw [(show cbL c (i + 1) (2 * k) = ⟨i + 1, (cbL c (i + 1) (2 * k)).x⟩ from rfl)]; exact (row_fri (hA hL)).more h2) hM1 ?_
            intro gg c9 wv zs f9 hg hgr
            have hsz := hgr.size
            refine hK' _ _ ⟨_, _, _, _, _, _, _, _, _, _, _, _, _, _, _, _, rfl, ⟨fun h => tfC (show true = true from rfl) h, hF.t5, hF.b0, fun h => by obtain ⟨p, e, p1, p2, p3⟩ := hF.b1 h; exact ⟨p, e, p1, by omega, fun h6 => tfC (hc 12 6 (by simp) (hc 13 12 (by simp) (hd 13 (by simp)))) h6⟩, hF.b2, hF.b3, hF.b4, hF.b5, fun h => by obtain ⟨A, c8, e, h1⟩ := hF.b6 h; exact ⟨A, c8, e, fun h2 => tfC (hc 13 12 (by simp) (hd 13 (by simp))) h2⟩, hF.b7, hF.b8, hF.b9, hF.b10, fun h => by obtain ⟨p, e, h1⟩ := hF.bAL h; exact ⟨p, e, fun h2 => tfC (hc 13 12 (by simp) (hd 13 (by simp))) h2⟩, fun _ => ⟨_, _, rfl, fun h => tfC (show true = true from rfl) h⟩, fun _ => ⟨_, rfl, fun h => tfC (show true = true from rfl) h⟩, fun _ => ⟨gg, c9, zs, f9, rfl, hg, ((hF.bel hL).mono (Nat.le_trans h1 h2)).grown hgr (Nat.le_trans (Nat.le_trans h1 h2) (hF.bel hL).size) (fun j e => (HG.out.lt j e).1)⟩, fun h => tfC (hc 15 14 (by simp) h) hL⟩⟩
          · intro L hL hd hc a w hI K' hK'
            obtain ⟨u5, u22, u23, u24, u25, u26, u27, u28, u29, u30, u31, u32, u33, u34, u35, u36, rfl, hF⟩ := hI
            obtain ⟨gg, c8, zs, f9, rfl, hg, hbw⟩ := hF.bAV (hd 14 (by simp))
            go_simp
            refine hK' _ _ ⟨_, _, _, _, _, _, _, _, _, _, _, _, _, _, _, _, rfl, ⟨fun h => tfC (hd 14 (by simp)) h, fun h => tfC (show true = true from rfl) h, hF.b0, hF.b1, hF.b2, hF.b3, hF.b4, hF.b5, hF.b6, hF.b7, hF.b8, hF.b9, hF.b10, hF.bAL, hF.bAP, hF.bAH, fun _ => ⟨gg, c8, zs, f9, rfl, hg, hbw⟩, fun _ => rfl⟩⟩
          · intro L hL a' w6 hI
            obtain ⟨u5, u22, u23, u24, u25, u26, u27, u28, u29, u30, u31, u32, u33, u34, u35, u36, rfl, hF⟩ := hI
            obtain ⟨gg, c7, zs, f9, e36, hg, hbw⟩ := hF.bAV (hL 14)
            obtain rfl := hF.bAS (hL 15)
            subst e36
            have HG9 := Lib.hid hg
            have HB9 := Lib.hid (HBq.out.trans (hbw.mono (Nat.le_refl _)))
            have hsz9 := hbw.size
            have HWW := Lib.hid hbw
            clear hF hL hg hbw HG HK1 HK2 HV1
            obtain ⟨bOx, oOx, eO, hbO, hcO⟩ := (HS.out.below HB9.out) (by omega)
            cases eO
            obtain ⟨aKx, cKx, hK1, hK2⟩ := hcO k hlk
            obtain ⟨bVx, oVx, eV, hbV, hcV⟩ := (HR.out.later (bl_trans HB.out HB9.out)) (by omega)
            cases eV
            have hV1 := hcV i hlt
            have HK1x := Lib.hid hK1
            have HK2x := Lib.hid (hK2.more HB9.out.size)
            have HV1x := Lib.hid hV1
            clear hcO hcV hK1 hK2 hV1
            have hB9 := Nat.le_trans (Nat.le_trans h1 h2) hsz9
            go_upto_region 10 with fail
            obtain ⟨wp, hwp⟩ : ∃ wp : World, wp = w6 := ⟨w6, rfl⟩
            subst hwp
            refine region_steps2 (J := fun _ L a' w' => ∃ u5 u37 u38 u39 u40 u41 u42 u43 u44 u45 u46 u47 u48 u49 u50 u51 u52 : Value, a' = ⟨#[.slice (some ⟨bV, oV, none⟩) n cap, undef, .slice none 0 0, .slice (some ⟨bO, oO, none⟩) M co, .int .i64 i, u5, .int .i64 k, .slice (some ⟨w.heap.size, 0, none⟩) 0 0, .slice (some ⟨w.heap.size + 1, 0, none⟩) 1 1, .int .i64 i, .slice (some ⟨bV, oV, none⟩) n cap, .int .i64 n, .bool true, u13, u14, .slice (some ⟨wo.heap.size, 0, none⟩) 0 0, .int .i64 k, .slice (some ⟨bO, oO, none⟩) M co, .int .i64 M, .bool true, u20, u21, u22, u23, u24, u25, u26, u27, u28, u29, u30, u31, u32, u33, u34, u35, .slice (some ⟨gg, 0, none⟩) (2 * k + 1) c7, u37, u38, u39, u40, u41, u42, u43, u44, u45, u46, u47, u48, u49, u50, u51, u52, u53, undef], []⟩ ∧ F10 wp (.slice (some ⟨gg, 0, none⟩) (2 * k + 1) c7) (.slice (some ⟨bO, oO, none⟩) M co) k i (.pointer (some ⟨bO, oO + k, none⟩)) (.pointer (some ⟨bV, oV + i, none⟩)) aKx i cKx (cbL c i k).x (.slice (some ⟨bV, oV, none⟩) n cap) (c i) (-(c i)) (cbL c (i + 1) (2 * k + 1)).x (2 * k + 1) wo.heap.size (cbL c (i + 1)) L w' u5 u37 u38 u39 u40 u41 u42 u43 u44 u45 u46 u47 u48 u49 u50 u51 u52) [[], [], [], [], [2, 3], [4], [1, 5], [], [], [7, 8], [9], [10], [11], [6, 12], [13], [0, 14], [0, 1, 2, 3, 4, 5, 6, 7, 8, 9, 10, 11, 12, 13, 14, 15]] (by kernel_rfl) (by kernel_rfl) ?_ ⟨?_, ?_, ?_, ?_, ?_, ?_, ?_, ?_, ?_, ?_, ?_, ?_, ?_, ?_, ?_, ?_, ?_, trivial⟩ ?_
            · intro L hL
              exact ⟨_, _, _, _, _, _, _, _, _, _, _, _, _, _, _, _, _, rfl, ⟨fun _ => (Below.refl wp.heap.size wp).drew, fun _ => rfl, fun h => tfC h (hL 0 (by decide)), fun h => tfC h (hL 1 (by decide)), fun h => tfC h (hL 2 (by decide)), fun h => tfC h (hL 3 (by decide)), fun h => tfC h (hL 4 (by decide)), fun h => tfC h (hL 5 (by decide)), fun h => tfC h (hL 6 (by decide)), fun h => tfC h (hL 7 (by decide)), fun h => tfC h (hL 8 (by decide)), fun h => tfC h (hL 9 (by decide)), fun h => tfC h (hL 10 (by decide)), fun h => tfC h (hL 11 (by decide)), fun h => tfC h (hL 12 (by decide)), fun h => tfC h (hL 13 (by decide)), fun h => tfC h (hL 14 (by decide)), fun h => tfC h (hL 15 (by decide)), fun h => tfC h (hL 16 (by decide))⟩⟩
            · intro L hL hd hc a w hI K' hK'
              obtain ⟨u5, u37, u38, u39, u40, u41, u42, u43, u44, u45, u46, u47, u48, u49, u50, u51, u52, rfl, hF⟩ := hI
              have hs : L 16 = false := by
                cases h : L 16 with
                | false => rfl
                | true => exact tfC (hc 16 0 (by simp) h) hL
              go_simp
              refine hK' _ _ ⟨_, _, _, _, _, _, _, _, _, _, _, _, _, _, _, _, _, rfl, ⟨hF.bel, hF.t5, fun _ => hF.t5 hs, hF.b1, hF.b2, hF.b3, hF.b4, hF.b5, hF.b6, hF.b7, hF.b8, hF.b9, hF.b10, hF.b11, hF.bAL, hF.bAP, hF.bAH, hF.bAV, hF.bAS⟩⟩
            · intro L hL hd hc a w hI K' hK'
              obtain ⟨u5, u37, u38, u39, u40, u41, u42, u43, u44, u45, u46, u47, u48, u49, u50, u51, u52, rfl, hF⟩ := hI
              have hn : L 15 = false := by
                cases h : L 15 with
                | false => rfl
                | true => exact tfC (hc 6 1 (by simp) (hc 13 6 (by simp) (hc 14 13 (by simp) (hc 15 14 (by simp) h)))) hL
              go_simp
              refine hK' _ _ ⟨_, _, _, _, _, _, _, _, _, _, _, _, _, _, _, _, _, rfl, ⟨fun _ => bl_alloc (hF.bel hn) _, hF.t5, hF.b0, fun _ => ⟨_, rfl, (hF.bel hn).size, by simp, fun _ => heap_alloc_new _ _⟩, hF.b2, hF.b3, hF.b4, hF.b5, fun h => tfC (hc 6 1 (by simp) h) hL, hF.b7, hF.b8, hF.b9, hF.b10, hF.b11, fun h => by obtain ⟨p, e, h1⟩ := hF.bAL h; exact ⟨p, e, fun h2 => ((bl_alloc (Below.refl w.heap.size w) _).block p (lblock_lt (h1 h2))).trans (h1 h2)⟩, fun h => tfC (hc 6 1 (by simp) (hc 13 6 (by simp) h)) hL, fun h => tfC (hc 6 1 (by simp) (hc 13 6 (by simp) (hc 14 13 (by simp) h))) hL, fun h => tfC (hc 6 1 (by simp) (hc 13 6 (by simp) (hc 14 13 (by simp) (hc 15 14 (by simp) h)))) hL, hF.bAS⟩⟩
            · intro L hL hd hc a w hI K' hK'
              obtain ⟨u5, u37, u38, u39, u40, u41, u42, u43, u44, u45, u46, u47, u48, u49, u50, u51, u52, rfl, hF⟩ := hI
              go_simp
              refine hK' _ _ ⟨_, _, _, _, _, _, _, _, _, _, _, _, _, _, _, _, _, rfl, ⟨hF.bel, hF.t5, hF.b0, hF.b1, fun _ => rfl, hF.b3, hF.b4, hF.b5, hF.b6, hF.b7, hF.b8, hF.b9, hF.b10, hF.b11, hF.bAL, hF.bAP, hF.bAH, hF.bAV, hF.bAS⟩⟩
            · intro L hL hd hc a w hI K' hK'
              obtain ⟨u5, u37, u38, u39, u40, u41, u42, u43, u44, u45, u46, u47, u48, u49, u50, u51, u52, rfl, hF⟩ := hI
              go_simp
              refine hK' _ _ ⟨_, _, _, _, _, _, _, _, _, _, _, _, _, _, _, _, _, rfl, ⟨hF.bel, hF.t5, hF.b0, hF.b1, hF.b2, fun _ => rfl, hF.b4, hF.b5, hF.b6, hF.b7, hF.b8, hF.b9, hF.b10, hF.b11, hF.bAL, hF.bAP, hF.bAH, hF.bAV, hF.bAS⟩⟩
            · intro L hL hd hc a w hI K' hK'
              obtain ⟨u5, u37, u38, u39, u40, u41, u42, u43, u44, u45, u46, u47, u48, u49, u50, u51, u52, rfl, hF⟩ := hI
              obtain rfl := hF.b2 (hd 2 (by simp))
              obtain rfl := hF.b3 (hd 3 (by simp))
              go_simp
              refine hK' _ _ ⟨_, _, _, _, _, _, _, _, _, _, _, _, _, _, _, _, _, rfl, ⟨hF.bel, hF.t5, hF.b0, hF.b1, hF.b2, hF.b3, fun _ => rfl, hF.b5, hF.b6, hF.b7, hF.b8, hF.b9, hF.b10, hF.b11, hF.bAL, hF.bAP, hF.bAH, hF.bAV, hF.bAS⟩⟩
            · intro L hL hd hc a w hI K' hK'
              obtain ⟨u5, u37, u38, u39, u40, u41, u42, u43, u44, u45, u46, u47, u48, u49, u50, u51, u52, rfl, hF⟩ := hI
              have hn : L 15 = false := by
                cases h : L 15 with
                | false => rfl
                | true => exact tfC (hc 6 5 (by simp) (hc 13 6 (by simp) (hc 14 13 (by simp) (hc 15 14 (by simp) h)))) hL
              obtain rfl := hF.b4 (hd 4 (by simp))
              have z := kc (hF.bel hn) HK1x.out
              go_simp
              refine hK' _ _ ⟨_, _, _, _, _, _, _, _, _, _, _, _, _, _, _, _, _, rfl, ⟨hF.bel, hF.t5, hF.b0, hF.b1, hF.b2, hF.b3, hF.b4, fun _ => rfl, hF.b6, hF.b7, hF.b8, hF.b9, hF.b10, hF.b11, hF.bAL, hF.bAP, hF.bAH, hF.bAV, hF.bAS⟩⟩
            · intro L hL hd hc a w hI K' hK'
              obtain ⟨u5, u37, u38, u39, u40, u41, u42, u43, u44, u45, u46, u47, u48, u49, u50, u51, u52, rfl, hF⟩ := hI
              have hn : L 15 = false := by
                cases h : L 15 with
                | false => rfl
                | true => exact tfC (hc 13 6 (by simp) (hc 14 13 (by simp) (hc 15 14 (by simp) h))) hL
              obtain ⟨p, rfl, p1, p2, p3⟩ := hF.b1 (hd 1 (by simp))
              obtain rfl := hF.b5 (hd 5 (by simp))
              have hp := p3 hL
              refine wp_cpJ (B0 := wp.heap.size) _ _ (by rfl) (by rfl) (by rfl) (by rfl) ⟨rfl, .inr ⟨p, 0, #[], rfl, p1, hp, Nat.le_refl _, by unfold maxLen; omega, rfl, rfl⟩⟩ (HK2x.out.later (hF.bel hn)) (hF.bel hn).size hI1 ?_
              intro A c8 wv how hgr
              have hsz := hgr.size
              refine hK' _ _ ⟨_, _, _, _, _, _, _, _, _, _, _, _, _, _, _, _, _, rfl, ⟨fun _ => (hF.bel hn).grown hgr (hF.bel hn).size (fun j e => by cases e; exact p1), hF.t5, hF.b0, fun _ => ⟨p, rfl, p1, by omega, fun h => tfC (show true = true from rfl) h⟩, hF.b2, hF.b3, hF.b4, hF.b5, fun _ => ⟨A, c8, rfl, fun _ => how⟩, hF.b7, hF.b8, hF.b9, hF.b10, hF.b11, fun h => by obtain ⟨q, e, h1⟩ := hF.bAL h; exact ⟨q, e, fun h2 => (hgr.block q (lblock_lt (h1 h2)) (by intro e'; simp only [Value.ownBlock, Option.some.injEq] at e'; subst e'; have := (h1 h2).symm.trans hp; cases this)).trans (h1 h2)⟩, fun h => tfC (hc 13 6 (by simp) h) hL, fun h => tfC (hc 13 6 (by simp) (hc 14 13 (by simp) h)) hL, fun h => tfC (hc 13 6 (by simp) (hc 14 13 (by simp) (hc 15 14 (by simp) h))) hL, hF.bAS⟩⟩
            · intro L hL hd hc a w hI K' hK'
              obtain ⟨u5, u37, u38, u39, u40, u41, u42, u43, u44, u45, u46, u47, u48, u49, u50, u51, u52, rfl, hF⟩ := hI
              go_simp
              refine hK' _ _ ⟨_, _, _, _, _, _, _, _, _, _, _, _, _, _, _, _, _, rfl, ⟨hF.bel, hF.t5, hF.b0, hF.b1, hF.b2, hF.b3, hF.b4, hF.b5, hF.b6, fun _ => rfl, hF.b8, hF.b9, hF.b10, hF.b11, hF.bAL, hF.bAP, hF.bAH, hF.bAV, hF.bAS⟩⟩
            · intro L hL hd hc a w hI K' hK'
              obtain ⟨u5, u37, u38, u39, u40, u41, u42, u43, u44, u45, u46, u47, u48, u49, u50, u51, u52, rfl, hF⟩ := hI
              go_simp
              refine hK' _ _ ⟨_, _, _, _, _, _, _, _, _, _, _, _, _, _, _, _, _, rfl, ⟨hF.bel, hF.t5, hF.b0, hF.b1, hF.b2, hF.b3, hF.b4, hF.b5, hF.b6, hF.b7, fun _ => rfl, hF.b9, hF.b10, hF.b11, hF.bAL, hF.bAP, hF.bAH, hF.bAV, hF.bAS⟩⟩
            · intro L hL hd hc a w hI K' hK'
              obtain ⟨u5, u37, u38, u39, u40, u41, u42, u43, u44, u45, u46, u47, u48, u49, u50, u51, u52, rfl, hF⟩ := hI
              obtain rfl := hF.b7 (hd 7 (by simp))
              obtain rfl := hF.b8 (hd 8 (by simp))
              go_simp
              refine hK' _ _ ⟨_, _, _, _, _, _, _, _, _, _, _, _, _, _, _, _, _, rfl, ⟨hF.bel, hF.t5, hF.b0, hF.b1, hF.b2, hF.b3, hF.b4, hF.b5, hF.b6, hF.b7, hF.b8, fun _ => rfl, hF.b10, hF.b11, hF.bAL, hF.bAP, hF.bAH, hF.bAV, hF.bAS⟩⟩
            · intro L hL hd hc a w hI K' hK'
              obtain ⟨u5, u37, u38, u39, u40, u41, u42, u43, u44, u45, u46, u47, u48, u49, u50, u51, u52, rfl, hF⟩ := hI
              have hn : L 15 = false := by
                cases h : L 15 with
                | false => rfl
                | true => exact tfC (hc 11 10 (by simp) (hc 12 11 (by simp) (hc 13 12 (by simp) (hc 14 13 (by simp) (hc 15 14 (by simp) h))))) hL
              obtain rfl := hF.b9 (hd 9 (by simp))
              have z := kc (hF.bel hn) HV1x.out
              go_simp
              refine hK' _ _ ⟨_, _, _, _, _, _, _, _, _, _, _, _, _, _, _, _, _, rfl, ⟨hF.bel, hF.t5, hF.b0, hF.b1, hF.b2, hF.b3, hF.b4, hF.b5, hF.b6, hF.b7, hF.b8, hF.b9, fun _ => rfl, hF.b11, hF.bAL, hF.bAP, hF.bAH, hF.bAV, hF.bAS⟩⟩
            · intro L hL hd hc a w hI K' hK'
              obtain ⟨u5, u37, u38, u39, u40, u41, u42, u43, u44, u45, u46, u47, u48, u49, u50, u51, u52, rfl, hF⟩ := hI
              obtain rfl := hF.b10 (hd 10 (by simp))
              go_simp
              refine hK' _ _ ⟨_, _, _, _, _, _, _, _, _, _, _, _, _, _, _, _, _, rfl, ⟨hF.bel, hF.t5, hF.b0, hF.b1, hF.b2, hF.b3, hF.b4, hF.b5, hF.b6, hF.b7, hF.b8, hF.b9, hF.b10, fun _ => rfl, hF.bAL, hF.bAP, hF.bAH, hF.bAV, hF.bAS⟩⟩
            · intro L hL hd hc a w hI K' hK'
              obtain ⟨u5, u37, u38, u39, u40, u41, u42, u43, u44, u45, u46, u47, u48, u49, u50, u51, u52, rfl, hF⟩ := hI
              have hn : L 15 = false := by
                cases h : L 15 with
                | false => rfl
                | true => exact tfC (hc 13 12 (by simp) (hc 14 13 (by simp) (hc 15 14 (by simp) h))) hL
              obtain rfl := hF.b11 (hd 11 (by simp))
              go_simp
              refine hK' _ _ ⟨_, _, _, _, _, _, _, _, _, _, _, _, _, _, _, _, _, rfl, ⟨fun _ => bl_alloc (hF.bel hn) _, hF.t5, hF.b0, fun h => by obtain ⟨p, e, p1, p2, p3⟩ := hF.b1 h; exact ⟨p, e, p1, by simp; omega, fun h2 => ((bl_alloc (Below.refl w.heap.size w) _).block p p2).trans (p3 h2)⟩, hF.b2, hF.b3, hF.b4, hF.b5, fun h => by obtain ⟨A, c8, e, h1⟩ := hF.b6 h; exact ⟨A, c8, e, fun h2 => row_below' (h1 h2) (bl_alloc (Below.refl w.heap.size w) _)⟩, hF.b7, hF.b8, hF.b9, hF.b10, hF.b11, fun _ => ⟨_, rfl, fun _ => heap_alloc_new _ _⟩, fun h => tfC (hc 13 12 (by simp) h) hL, fun h => tfC (hc 13 12 (by simp) (hc 14 13 (by simp) h)) hL, fun h => tfC (hc 13 12 (by simp) (hc 14 13 (by simp) (hc 15 14 (by simp) h))) hL, hF.bAS⟩⟩
            · intro L hL hd hc a w hI K' hK'
              obtain ⟨u5, u37, u38, u39, u40, u41, u42, u43, u44, u45, u46, u47, u48, u49, u50, u51, u52, rfl, hF⟩ := hI
              have hn : L 15 = false := by
                cases h : L 15 with
                | false => rfl
                | true => exact tfC (hc 14 13 (by simp) (hc 15 14 (by simp) h)) hL
              obtain ⟨A, c8, rfl, hA⟩ := hF.b6 (hd 6 (by simp))
              obtain ⟨p, rfl, hp⟩ := hF.bAL (hd 12 (by simp))
              refine wp_addJ (B0 := wp.heap.size) (y := (cbL c (i + 1) (2 * k + 1)).x) _ _ (by rfl) (by rfl) (by rfl) (Hxn.out ▸ hA hL) (hp hL) Hyn.out (hF.bel hn).size hI1 ?_
              intro g c9 wv how hgr
              have hsz := hgr.size
              refine hK' _ _ ⟨_, _, _, _, _, _, _, _, _, _, _, _, _, _, _, _, _, rfl, ⟨fun _ => (hF.bel hn).grown hgr (hF.bel hn).size (fun j e => ((hA hL).lt j e).1), hF.t5, hF.b0, fun h => by obtain ⟨p, e, p1, p2, p3⟩ := hF.b1 h; exact ⟨p, e, p1, by omega, fun h6 => tfC (hd 6 (by simp)) h6⟩, hF.b2, hF.b3, hF.b4, hF.b5, fun _ => ⟨_, _, rfl, fun h => tfC (show true = true from rfl) h⟩, hF.b7, hF.b8, hF.b9, hF.b10, hF.b11, fun _ => ⟨_, rfl, fun h => tfC (show true = true from rfl) h⟩, fun _ => ⟨g, c9, rfl, fun _ => how⟩, fun h => tfC (hc 14 13 (by simp) h) hL, fun h => tfC (hc 14 13 (by simp) (hc 15 14 (by simp) h)) hL, hF.bAS⟩⟩
            · intro L hL hd hc a w hI K' hK'
              obtain ⟨u5, u37, u38, u39, u40, u41, u42, u43, u44, u45, u46, u47, u48, u49, u50, u51, u52, rfl, hF⟩ := hI
              have hn : L 15 = false := by
                cases h : L 15 with
                | false => rfl
                | true => exact tfC (hc 15 14 (by simp) h) hL
              obtain ⟨g, c8, rfl, hA⟩ := hF.bAP (hd 13 (by simp))
              go_simp
              refine hK' _ _ ⟨_, _, _, _, _, _, _, _, _, _, _, _, _, _, _, _, _, rfl, ⟨fun _ => bl_alloc (hF.bel hn) _, hF.t5, hF.b0, fun h => by obtain ⟨p, e, p1, p2, p3⟩ := hF.b1 h; exact ⟨p, e, p1, by simp; omega, fun h6 => tfC (hc 13 6 (by simp) (hd 13 (by simp))) h6⟩, hF.b2, hF.b3, hF.b4, hF.b5, fun h => by obtain ⟨A, c8, e, h1⟩ := hF.b6 h; exact ⟨A, c8, e, fun h2 => tfC (hd 13 (by simp)) h2⟩, hF.b7, hF.b8, hF.b9, hF.b10, hF.b11, fun h => by obtain ⟨p, e, h1⟩ := hF.bAL h; exact ⟨p, e, fun h2 => tfC (hd 13 (by simp)) h2⟩, fun _ => ⟨g, c8, rfl, fun h => row_below' (hA h) (bl_alloc (Below.refl w.heap.size w) _)⟩, fun _ => ⟨_, rfl, fun _ => heap_alloc_new _ _⟩, fun h => tfC (hc 15 14 (by simp) h) hL, hF.bAS⟩⟩
            · intro L hL hd hc a w hI K' hK'
              obtain ⟨u5, u37, u38, u39, u40, u41, u42, u43, u44, u45, u46, u47, u48, u49, u50, u51, u52, rfl, hF⟩ := hI
              obtain rfl := hF.b0 (hd 0 (by simp))
              obtain ⟨g, c8, rfl, hA⟩ := hF.bAP (hc 14 13 (by simp) (hd 14 (by simp)))
              obtain ⟨p, rfl, hp⟩ := hF.bAH (hd 14 (by simp))
              refine wp_grl1 (r := cbL c (i + 1)) (k := 2 * k + 1) (A := some ⟨g, 0, none⟩) (cap := c8) _ _ (by rfl) (HG9.out.below (hF.bel hL)) hB9 (Nat.le_trans (Nat.le_refl _) (hF.bel hL).size) (by rfl) (by rfl) (by rw [(show cbL c (i + 1) (2 * k + 1) = ⟨i + 1, (cbL c (i + 1) (2 * k + 1)).x⟩ from rfl)]; exact hp hL) (by rw [(show cbL c (i + 1) (2 * k + 1) = ⟨i + 1, (cbL c (i + 1) (2 * k + 1)).x⟩ from rfl)]; exact (row_fri (hA hL)).more (Nat.le_refl _)) hM2 ?_
              intro gg c9 wv zs f9 hg hgr
              have hsz := hgr.size
              refine hK' _ _ ⟨_, _, _, _, _, _, _, _, _, _, _, _, _, _, _, _, _, rfl, ⟨fun h => tfC (show true = true from rfl) h, hF.t5, hF.b0, fun h => by obtain ⟨p, e, p1, p2, p3⟩ := hF.b1 h; exact ⟨p, e, p1, by omega, fun h6 => tfC (hc 13 6 (by simp) (hc 14 13 (by simp) (hd 14 (by simp)))) h6⟩, hF.b2, hF.b3, hF.b4, hF.b5, fun h => by obtain ⟨A, c8, e, h1⟩ := hF.b6 h; exact ⟨A, c8, e, fun h2 => tfC (hc 14 13 (by simp) (hd 14 (by simp))) h2⟩, hF.b7, hF.b8, hF.b9, hF.b10, hF.b11, fun h => by obtain ⟨p, e, h1⟩ := hF.bAL h; exact ⟨p, e, fun h2 => tfC (hc 14 13 (by simp) (hd 14 (by simp))) h2⟩, fun _ => ⟨_, _, rfl, fun h => tfC (show true = true from rfl) h⟩, fun _ => ⟨_, rfl, fun h => tfC (show true = true from rfl) h⟩, fun _ => ⟨gg, c9, zs, f9, rfl, hg, ((hF.bel hL).mono (Nat.le_trans hB9 (Nat.le_refl _))).grown hgr (Nat.le_trans (Nat.le_trans hB9 (Nat.le_refl _)) (hF.bel hL).size) (fun j e => (HG9.out.lt j e).1)⟩, fun h => tfC (hc 16 15 (by simp) h) hL⟩⟩
            · intro L hL hd hc a w hI K' hK'
              obtain ⟨u5, u37, u38, u39, u40, u41, u42, u43, u44, u45, u46, u47, u48, u49, u50, u51, u52, rfl, hF⟩ := hI
              obtain ⟨gg, c8, zs, f9, rfl, hg, hbw⟩ := hF.bAV (hd 15 (by simp))
              go_simp
              refine hK' _ _ ⟨_, _, _, _, _, _, _, _, _, _, _, _, _, _, _, _, _, rfl, ⟨fun h => tfC (hd 15 (by simp)) h, fun h => tfC (show true = true from rfl) h, hF.b0, hF.b1, hF.b2, hF.b3, hF.b4, hF.b5, hF.b6, hF.b7, hF.b8, hF.b9, hF.b10, hF.b11, hF.bAL, hF.bAP, hF.bAH, fun _ => ⟨gg, c8, zs, f9, rfl, hg, hbw⟩, fun _ => rfl⟩⟩
            · intro L hL a' w6 hI
              obtain ⟨u5, u37, u38, u39, u40, u41, u42, u43, u44, u45, u46, u47, u48, u49, u50, u51, u52, rfl, hF⟩ := hI
              obtain ⟨gg2, c72, zs2, f92, e36, hg, hbw⟩ := hF.bAV (hL 15)
              obtain rfl := hF.bAS (hL 16)
              subst e36
              have HG10 := Lib.hid hg
              have HB10 := Lib.hid (HB9.out.trans hbw)
              have hsz10 := hbw.size
              clear hF hL hg hbw HG9 HK1x HK2x HV1x hw1 hw2
              go_wp2
              go_roundw
              case rel => exact ⟨k + 1, _, zs2, f92, by omega, by go_num, by rw [show 2 * (k + 1) = 2 * k + 1 + 1 by omega]; exact HG10.out, Nat.le_trans hB9 hsz10, Nat.le_refl _, HB10.out⟩
              case measure => simp [intOf]; omega
        · obtain rfl : k = M := by omega
          obtain ⟨A1, cap1, rfl, hF1, hS1⟩ := HG.out.rdS (fun j _ => Nat.succ_ne_zero i)
          have HF1 := Lib.hid (hF1.more HB.out.size)
          have HS1 := Lib.hid hS1
          have HB1 := Lib.hid (bl_trans HB.out HBq.out)
          have HM2 := Lib.hid (show 2 ^ (i + 1) = 2 * k by rw [Nat.pow_succ, HM.out, Nat.mul_comm])
          clear hF1 hS1 HG HBq HS
          go_wp2
          go_roundw
          case rel => exact ⟨i + 1, A1, cap1, by omega, by go_num, by rw [HM2.out], by rw [HM2.out]; exact HS1.out, by rw [HM2.out]; exact HF1.out, HB1.out⟩
          case measure => simp [intOf]; omega
    · obtain rfl : i = n := by omega
      go_wp2
      go_ret
      exact ⟨_, _, rfl, HF.out, HB.out⟩
end Go.Proofs.YtnfkhakgikbbeaaGreat

namespace Go.Proofs.YtnfkhakgikbbeaaGreat
open Go.ChangeShapes Go.WideShapes Go.ChangeAt Go.RowKit

/-- A block of m lists of the call's own: the first k of them are laid. -/
structure HalfL (w : World) (B hi G m k : Nat) (r : Nat → Lst) (f : Nat → Nat) : Prop where
  row : ∃ cs : Array Value, w.heap[G]? = some (.cells cs 24 (0, 0)) ∧ cs.size = m ∧ ∀ i, i < k → ∃ Ai ci, cs[i]? = some (.slice Ai (r i).n ci) ∧ ((r i).n = 0 ∨ (Ai = some ⟨f i, 0, none⟩ ∧ B ≤ f i ∧ f i < hi ∧ OwnV w (f i) 3 (r i).n (r i).n (r i).x))
  lt : B ≤ G
  inj : ∀ i j, i < k → j < k → (r i).n ≠ 0 → (r j).n ≠ 0 → i ≠ j → f i ≠ f j
section
variable {w W : World} {B hi G m n k : Nat} {r : Nat → Lst} {f : Nat → Nat}
theorem HalfL.fin (h : HalfL w B hi G m m r f) : FrL w B (some ⟨G, 0, none⟩) m r := by
  obtain ⟨cs, hh, hs, he⟩ := h.row
  refine ⟨f, ⟨.inr ⟨G, cs, rfl, hh, fun i hi => ?_⟩, fun i hi => ?_, h.inj⟩, fun b hb => ?_⟩
  · obtain ⟨Ai, ci, h1, h2⟩ := he i hi
    exact ⟨Ai, ci, h1, h2.imp id fun x => x.1⟩
  · obtain ⟨Ai, ci, _, h2⟩ := he i hi
    exact h2.imp id fun x => x.2.2.2
  · rcases hb with ⟨_, a, ha, rfl⟩ | ⟨i, hi, hz, rfl⟩
    · cases ha
      exact h.lt
    · obtain ⟨Ai, ci, _, h2⟩ := he i hi
      rcases h2 with e | ⟨_, b, _⟩
      · exact absurd e hz
      · exact b
theorem HalfL.open (h : HalfL w B hi G m k r f) (hb : Below w.heap.size w W) (hk : k < m) : (∃ u, W.cell? ⟨G, k, none⟩ = some u) ∧ W.frozen? ⟨G, k, none⟩ = false := by
  obtain ⟨cs, hh, hs, _⟩ := h.row
  have hW := (hb.block G (lblock_lt hh)).trans hh
  exact ⟨⟨cs[k]'(by omega), (cell_of_row W G _ cs _ _ hW).trans (Array.getElem?_eq_getElem (by omega))⟩, by simp [World.frozen?, hW]⟩
/-- The next list is laid, in a block of its own. -/
theorem HalfL.next (h : HalfL w B hi G m k r f) (hb : Below w.heap.size w W) (hk : k < m) (hB : B ≤ hi) (hhi : hi ≤ w.heap.size) {A : Option Addr} {ci : Nat} (hel : FrI W w.heap.size 3 A (r k).n (r k).x) :
    ∃ f', HalfL (W.setCell ⟨G, k, none⟩ (.slice A (r k).n ci)) B W.heap.size G m (k + 1) r f' := by
  obtain ⟨cs, hh, hs, he⟩ := h.row
  have hW : W.heap[G]? = some (.cells cs 24 (0, 0)) := (hb.block G (lblock_lt hh)).trans hh
  have hset : (W.setCell ⟨G, k, none⟩ (.slice A (r k).n ci)).heap[G]? = some (.cells (cs.setIfInBounds k (.slice A (r k).n ci)) 24 (0, 0)) := by
    simp [World.setCell, Array.getElem?_modify, hW]
  have hfar : ∀ {H m : Nat} {v : Nat → Int}, OwnV W H 3 m m v → OwnV (W.setCell ⟨G, k, none⟩ (.slice A (r k).n ci)) H 3 m m v := fun {H m v} hu => hu.at_ (Below.heap_setCell W ⟨G, k, none⟩ _ _ (fun e => by
    obtain ⟨cs', h3, _⟩ := hu
    rw [show H = G from e, hW] at h3
    injection h3 with h3
    injection h3 with _ h4 _
    exact absurd h4 (by decide)))
  obtain ⟨g1, hg1⟩ : ∃ g1, (r k).n = 0 ∨ (A = some ⟨g1, 0, none⟩ ∧ w.heap.size ≤ g1 ∧ OwnV W g1 3 (r k).n (r k).n (r k).x) := by
    rcases hel with e | ⟨H, e, h1, h2⟩
    · exact ⟨0, .inl e⟩
    · exact ⟨H, .inr ⟨e, h1, h2⟩⟩
  have hold : ∀ i, i < k → (r i).n ≠ 0 → f i < hi := fun i hi1 hz => by
    obtain ⟨_, _, _, h3⟩ := he i hi1
    rcases h3 with e | ⟨_, _, c, _⟩
    · exact absurd e hz
    · exact c
  have hws := hb.size
  refine ⟨fun i => if i = k then g1 else f i, ⟨_, hset, by simpa using hs, fun i hi1 => ?_⟩, h.lt, fun i j hi1 hj1 hz1 hz2 hne => ?_⟩
  · by_cases e : i = k
    · subst e
      refine ⟨A, ci, by rw [Array.getElem?_setIfInBounds, if_pos rfl, if_pos (by omega)], ?_⟩
      rcases hg1 with e | ⟨a1, a2, a3⟩
      · exact .inl e
      · exact .inr ⟨by rw [if_pos rfl]; exact a1, by rw [if_pos rfl]; omega, by rw [if_pos rfl]; exact a3.lt, by rw [if_pos rfl]; exact hfar a3⟩
    · obtain ⟨Ai, ci', h1, h3⟩ := he i (by omega)
      refine ⟨Ai, ci', by rw [Array.getElem?_setIfInBounds, if_neg (by omega)]; exact h1, ?_⟩
      simp only [if_neg e]
      rcases h3 with e3 | ⟨a1, a2, a3, a4⟩
      · exact .inl e3
      · exact .inr ⟨a1, a2, by omega, hfar (a4.below hb)⟩
  · have hnew1 : (r k).n ≠ 0 → hi ≤ g1 := fun hz => by
      rcases hg1 with e | ⟨_, a2, _⟩
      · exact absurd e hz
      · omega
    show (if i = k then g1 else f i) ≠ (if j = k then g1 else f j)
    by_cases e : i = k
    · have e2 : j ≠ k := fun e' => hne (by omega)
      rw [if_pos e, if_neg e2]
      have h1 := hold j (by omega) hz2
      have h2 := hnew1 (by rw [← e]; exact hz1)
      omega
    · by_cases e2 : j = k
      · rw [if_pos e2, if_neg e]
        have h1 := hold i (by omega) hz1
        have h2 := hnew1 (by rw [← e2]; exact hz2)
        omega
      · rw [if_neg e, if_neg e2]
        exact h.inj i j (by omega) (by omega) hz1 hz2 hne
theorem OwnV.set {T : TypeId} {v : Nat → Int} {j : Nat} {z : Int} (h : OwnV w G T n n v) (hj : j < n) : OwnV (w.setCell ⟨G, j, none⟩ (.int .i64 z)) G T n n (fun i => if i = j then z else v i) := by
  obtain ⟨cs, hh, h1, h2⟩ := h
  refine ⟨cs.setIfInBounds j (.int .i64 z), ?_, by simp [h1], fun i hi => ?_⟩
  · simp [World.setCell, Array.getElem?_modify, hh]
  · rw [Array.getElem?_setIfInBounds]
    by_cases e : i = j
    · subst e
      rw [if_pos rfl, if_pos (by omega)]
      simp only [if_pos]
    · rw [if_neg (by omega)]
      simp only [if_neg e]
      exact h2 i hi
theorem OwnV.eq {T : TypeId} {v v' : Nat → Int} (h : OwnV w G T n n v) (he : ∀ i, i < n → v i = v' i) : OwnV w G T n n v' := by
  obtain ⟨cs, hh, h1, h2⟩ := h
  exact ⟨cs, hh, h1, fun i hi => by rw [← he i hi]; exact h2 i hi⟩
end

/-- The cube that is being made: its first i literals are signed. -/
def mixC (c : Nat → Int) (n k i i' : Nat) : Int := if i' < i then (cbL c n k).x i' else c i'
theorem wrap_pow {n M : Nat} (hn : n ≤ 4) (hM : 2 ^ n = M) : wrap64 ((2 : Int) ^ n) = (M : Int) ∧ M ≤ 16 ∧ 1 ≤ M := by
  have h : (2 : Int) ^ n = (M : Int) ∧ M ≤ 16 ∧ 1 ≤ M := by
    subst hM
    have : n = 0 ∨ n = 1 ∨ n = 2 ∨ n = 3 ∨ n = 4 := by omega
    rcases this with rfl | rfl | rfl | rfl | rfl <;> exact ⟨by decide, by decide, by decide⟩
  refine ⟨?_, h.2⟩
  rw [h.1]
  exact IntWalk.i64_left _ ▸ IntWalk.i64_in _ (by omega)
theorem bits_all : ∀ (n : Fin 5) (k : Fin 16) (j : Fin 4), (bits .and .i64 (((k.val : Nat) : Int) / 2 ^ (n.val - 1 - j.val)) 1 == 1) = bitN n.val k.val j.val := by decide +kernel
theorem bits_at {n k j : Nat} (hn : n ≤ 4) (hk : k < 16) (hj : j < n) : (bits .and .i64 ((k : Int) / 2 ^ (n - 1 - j)) 1 == 1) = bitN n k j := bits_all ⟨n, by omega⟩ ⟨k, hk⟩ ⟨j, by omega⟩
theorem mixC_at (c : Nat → Int) (n k j : Nat) : mixC c n k j j = c j := if_neg (by omega)
theorem mixC_yes {c : Nat → Int} {n k j : Nat} (h : bitN n k j = true) (i : Nat) : (if i = j then -(c j) else mixC c n k j i) = mixC c n k (j + 1) i := by
  unfold mixC
  by_cases e : i = j
  · subst e
    rw [if_pos rfl, if_pos (by omega)]
    show -(c i) = if bitN n k i = true then -(c i) else c i
    rw [if_pos h]
  · rw [if_neg e]
    by_cases e2 : i < j
    · rw [if_pos e2, if_pos (by omega)]
    · rw [if_neg e2, if_neg (by omega)]
theorem mixC_no {c : Nat → Int} {n k j : Nat} (h : bitN n k j = false) (i : Nat) : mixC c n k j i = mixC c n k (j + 1) i := by
  unfold mixC
  by_cases e : i = j
  · subst e
    rw [if_neg (by omega), if_pos (by omega)]
    show c i = if bitN n k i = true then -(c i) else c i
    rw [if_neg (by rw [h]; exact Bool.false_ne_true)]
  · by_cases e2 : i < j
    · rw [if_pos e2, if_pos (by omega)]
    · rw [if_neg e2, if_neg (by omega)]
theorem mixC_end {c : Nat → Int} {n k : Nat} (i : Nat) (h : i < n) : mixC c n k n i = (cbL c n k).x i := if_pos h

set_option linter.unusedVariables false in
set_option maxRecDepth 100000 in
set_option maxHeartbeats 3200000 in
theorem cubesOf_any (A : Option Addr) (n cap : Nat) (c : Nat → Int) (w : World) (hn : n ≤ 4) (hc : ∀ i, i < n → 1 ≤ c i ∧ c i ≤ 12) (hr : RdI w w.heap.size A n c) :
    Calls Tryz.prog 29 #[.slice A n cap] w fun e w' => ∃ A' cap', e = .returned (.slice A' (2 ^ n) cap') ∧ FrL w' w.heap.size A' (2 ^ n) (cbL c n) ∧ Below w.heap.size w w' := by
  obtain ⟨M, hM⟩ : ∃ M, 2 ^ n = M := ⟨_, rfl⟩
  obtain ⟨hwM, hM16, hM1⟩ := wrap_pow hn hM
  have HM := Lib.hid hM
  have HC := Lib.hid hc
  have HR := Lib.hid hr
  rw [hM]
  obtain ⟨i0, hi, hz0, hz1, hz2⟩ := info_parts Tryz.infoIS
  have hmk := fun W => run_make (P := Tryz.prog) W 28 24 i0 _ Tryz.underlying28 hi hz0 .i64 .i64 (M : Int) M (by omega) (by omega) (by rw [hz2]; omega) (by omega)
  rw [hz1] at hmk
  clear hi hz0 hz1 hz2 hM hc hr
  go_enter Tryz.func29, Tryz.ntmps29
  go_wp2
  clear hmk hwM
  go_loopw [13] (fun i wr => ∃ (k hi : Nat) (f : Nat → Nat), k ≤ M ∧ i = .int .i64 k ∧ HalfL wr w.heap.size hi w.heap.size M k (cbL c n) f ∧ w.heap.size ≤ hi ∧ hi ≤ wr.heap.size ∧ Below w.heap.size w wr) (fun i _ => M - (intOf i).toNat)
  case atStart => exact ⟨0, w.heap.size, fun _ => 0, Nat.zero_le _, rfl, ⟨⟨_, heap_alloc_new _ _, by simp [size_madeCells], fun i hi => by omega⟩, Nat.le_refl _, fun i j hi => by omega⟩, Nat.le_refl _, by simp, bl_alloc (Below.refl _ _) _⟩
  case round =>
    obtain ⟨k, hi, f, hk, rfl, hg, h1, h2, hb⟩ := hrel
    have HG := Lib.hid hg
    have HB := Lib.hid hb
    clear hg hb
    by_cases hlt : k < M
    · go_wp2_with fail
      refine (cloneJ_any A n cap c _ (by omega) (HR.out.later HB.out)).mono ?_
      rintro e w1 ⟨A1, cap1, rfl, hF, hb1⟩
      have HF1 := Lib.hid hF
      have HB1 := Lib.hid hb1
      clear hF hb1
      go_wp2
      go_loopw [20] (fun i wq => ∃ j : Nat, j ≤ n ∧ i = .int .i64 j ∧ FrI wq wr.heap.size 3 A1 n (mixC c n k j) ∧ Below wr.heap.size wr wq) (fun i _ => n - (intOf i).toNat)
      case atStart => exact ⟨0, Nat.zero_le _, rfl, HF1.out, HB1.out⟩
      case round =>
        obtain ⟨j, hj, rfl, hF, hb⟩ := hrel
        have HF := Lib.hid hF
        have HBq := Lib.hid hb
        clear hF hb HF1 HB1
        by_cases hlj : j < n
        · rcases HF.out with h0 | ⟨G, rfl, hG, hv⟩
          · exact absurd h0 (by omega)
          have hbit := bits_at (k := k) hn (by omega) hlj
          obtain ⟨cs, hh, hs, he⟩ := hv
          have hcell : wr.cell? ⟨G, j, none⟩ = some (.int .i64 (c j)) := (cell_of_row wr G _ cs _ _ hh).trans ((he j hlj).trans (by rw [mixC_at]))
          have hfz : wr.frozen? ⟨G, j, none⟩ = false := by simp [World.frozen?, hh]
          have HV := Lib.hid (show OwnV wr G 3 n n (mixC c n k j) from ⟨cs, hh, hs, he⟩)
          have hcj := HC.out j hlj
          have hlI : (j : Int) < (n : Int) := by omega
          have hj0 : (0 : Int) ≤ (j : Int) := by omega
          clear hh hs he
          cases hq : bitN n k j with
          | true =>
            have HX := Lib.hid (mixC_yes (c := c) hq)
            rw [hq] at hbit
            clear hq
            have HN := Lib.hid ((HV.out.set (z := -(c j)) hlj).eq fun i _ => HX.out i)
            have HBn := Lib.hid (HBq.out.setCell (p := ⟨G, j, none⟩) hG (.int .i64 (-(c j))))
            have hw1 : wrap64 (-(c j)) = -(c j) := IntWalk.i64_left _ ▸ IntWalk.i64_in _ (by omega)
            have hw2 : IntKind.i64.wrap (-(c j)) = -(c j) := IntWalk.i64_in _ (by omega)
            clear hcj
            go_wp2
            go_roundw
            case rel => exact ⟨j + 1, by omega, by go_num, .inr ⟨G, rfl, hG, HN.out⟩, HBn.out⟩
            case measure => simp [intOf]; omega
          | false =>
            have HX := Lib.hid (mixC_no (c := c) hq)
            rw [hq] at hbit
            clear hq
            have HN := Lib.hid (HV.out.eq fun i _ => HX.out i)
            clear hcell hfz hcj
            go_wp2
            go_roundw
            case rel => exact ⟨j + 1, by omega, by go_num, .inr ⟨G, rfl, hG, HN.out⟩, HBq.out⟩
            case measure => simp [intOf]; omega
        · obtain rfl : j = n := by omega
          have HE := Lib.hid (show FrI wr _ 3 A1 (cbL c j k).n (cbL c j k).x from by
            rcases HF.out with h0 | ⟨G, e, hG, hv⟩
            · exact .inl h0
            · exact .inr ⟨G, e, hG, hv.eq fun i hi => mixC_end i hi⟩)
          obtain ⟨⟨u, hu⟩, hfz⟩ := HG.out.open HBq.out hlt
          obtain ⟨f', hn'⟩ := HG.out.next (ci := cap1) HBq.out hlt h1 h2 HE.out
          have HN := Lib.hid hn'
          have HB2 := Lib.hid (bl_trans HB.out HBq.out)
          have HB3 := Lib.hid (HB2.out.setCell (p := ⟨w.heap.size, k, none⟩) (Nat.le_refl _) (.slice A1 j cap1))
          have hsz := HB2.out.size
          clear HF HE HG HB HBq hn'
          go_wp2
          go_roundw
          case rel => exact ⟨k + 1, _, f', by omega, by go_num, HN.out, hsz, by simp [World.setCell], HB3.out⟩
          case measure => simp [intOf]; omega
    · obtain rfl : k = M := by omega
      have HFn := Lib.hid HG.out.fin
      clear HG
      go_wp2
      go_ret
      exact ⟨_, _, rfl, HFn.out, HB.out⟩
end Go.Proofs.YtnfkhakgikbbeaaGreat

namespace Go.Proofs.YtnfkhakgikbbeaaGreat
open Go.ChangeShapes Go.WideShapes Go.ChangeAt Go.RowKit Go.Shelf

/-- The first k literals are true. -/
def holdR (c : Nat → Int) (v : Nat → Bool) : Nat → Bool
  | 0 => true
  | k + 1 => holdR c v k && trueP v (c k)
/-- What CubeHolds answers. -/
def holdsB (n : Nat) (c : Nat → Int) (nv : Nat) (v : Nat → Bool) : Bool := cubeB n c && ((nv == 12) && holdR c v n)
section
variable {c : Nat → Int} {v : Nat → Bool} {n nv k : Nat}
theorem holdR_no (h : trueP v (c k) = false) (hk : k < n) : holdR c v n = false := by
  induction n with
  | zero => omega
  | succ n ih =>
    unfold holdR
    by_cases e : k = n
    · subst e; rw [h, Bool.and_false]
    · rw [ih (by omega), Bool.false_and]
theorem holdR_yes (h : holdR c v k = true) (h1 : trueP v (c k) = true) : holdR c v (k + 1) = true := by unfold holdR; rw [h, h1]; rfl
theorem holds_inv (h : cubeB n c = false) : holdsB n c nv v = false := by unfold holdsB; rw [h]; rfl
theorem holds_len (h : nv ≠ 12) : holdsB n c nv v = false := by unfold holdsB; rw [show (nv == 12) = false by rw [beq_eq_false_iff_ne]; exact h]; simp
theorem holds_eq (h : cubeB n c = true) : holdsB n c 12 v = holdR c v n := by unfold holdsB; rw [h]; rfl
theorem holdR_any : ∀ n, holdR c v n = !anyQ (fun i => !trueP v (c i)) n
  | 0 => rfl
  | n + 1 => by
    show (holdR c v n && trueP v (c n)) = !(anyQ (fun i => !trueP v (c i)) n || !trueP v (c n))
    rw [holdR_any n]
    cases anyQ (fun i => !trueP v (c i)) n <;> cases trueP v (c n) <;> rfl
end

set_option maxRecDepth 100000 in
set_option maxHeartbeats 1600000 in
theorem indexJ_any (f : Nat) (lb : Array Value) (A : Option Addr) (n cap : Nat) (x : Nat → Int) (b : Nat → Bool) (w : World) (hn : n ≤ 1048576) (hr : RdI w w.heap.size A n x)
    (ef : ∀ args w, (callFunc f args).run Tryz.prog w = .ok (.enter f args) w)
    (hf : ∀ (k : Nat) (X : World), k < n → Below w.heap.size w X → Calls Tryz.prog f (#[.int .i64 (x k)] ++ lb) X fun e X' => e = .returned (.bool (b k)) ∧ Below X.heap.size X X') :
    Calls Tryz.prog 55 #[.slice A n cap, .func (.func f) #[] lb] w fun e w' => ∃ m : Int, e = .returned (.int .i64 m) ∧ decide (0 ≤ m) = anyQ b n ∧ Below w.heap.size w w' := by
  go_enter Tryz.func55, Tryz.ntmps55
  go_wp2
  go_loopw [8] (fun i wr => ∃ k : Nat, k ≤ n ∧ i = .int .i64 k ∧ anyQ b k = false ∧ Below w.heap.size w wr) (fun i _ => n - (intOf i).toNat)
  case atStart => exact ⟨0, Nat.zero_le _, rfl, rfl, Below.refl _ _⟩
  case round =>
    obtain ⟨k, hk, rfl, hp, hb⟩ := hrel
    have Hp := Lib.hid hp
    clear hp
    by_cases hlt : k < n
    · obtain ⟨bb, off, rfl, hbl, hc⟩ := (hr.below hb) (by omega)
      have hc1 := hc k hlt
      have Hcall := Lib.hid (hf k wr hlt hb)
      clear hc hr hf
      cases hq : b k with
      | true =>
        have Hfin := Lib.hid (show decide (0 ≤ (k : Int)) = anyQ b n from by rw [anyQ_of hlt hq]; simp)
        rw [hq] at Hcall
        clear hq
        go_wp2_with fail
        refine Hcall.out.mono ?_
        rintro e w1 ⟨rfl, hb1⟩
        go_wp2
        go_ret
        exact ⟨_, rfl, Hfin.out, hb.trans (hb1.mono hb.size)⟩
      | false =>
        have Hno := Lib.hid (anyQ_step Hp.out hq)
        rw [hq] at Hcall
        clear hq
        go_wp2_with fail
        refine Hcall.out.mono ?_
        rintro e w1 ⟨rfl, hb1⟩
        go_wp2
        go_roundw
        case rel => exact ⟨k + 1, by omega, by go_num, Hno.out, hb.trans (hb1.mono hb.size)⟩
        case measure => simp [intOf]; omega
    · have e : k = n := by omega
      subst e
      go_wp2
      go_ret
      exact ⟨-1, rfl, by rw [Hp.out]; rfl, hb⟩

set_option maxRecDepth 100000 in
set_option maxHeartbeats 800000 in
theorem containsJ_any (f : Nat) (lb : Array Value) (A : Option Addr) (n cap : Nat) (x : Nat → Int) (b : Nat → Bool) (w : World) (hn : n ≤ 1048576) (hr : RdI w w.heap.size A n x)
    (ef : ∀ args w, (callFunc f args).run Tryz.prog w = .ok (.enter f args) w)
    (hf : ∀ (k : Nat) (X : World), k < n → Below w.heap.size w X → Calls Tryz.prog f (#[.int .i64 (x k)] ++ lb) X fun e X' => e = .returned (.bool (b k)) ∧ Below X.heap.size X X') :
    Calls Tryz.prog 28 #[.slice A n cap, .func (.func f) #[] lb] w fun e w' => e = .returned (.bool (anyQ b n)) ∧ Below w.heap.size w w' := by
  have Hc := Lib.hid (indexJ_any f lb A n cap x b w hn hr ef hf)
  clear hf ef hr
  go_enter Tryz.func28, Tryz.ntmps28
  go_wp2_with fail
  refine Hc.out.mono ?_
  rintro e w1 ⟨m, rfl, hm, hb⟩
  have Hm := Lib.hid hm
  clear hm
  go_wp2
  go_ret
  exact ⟨ret_bool Hm.out, hb⟩
end Go.Proofs.YtnfkhakgikbbeaaGreat

namespace Go.Proofs.YtnfkhakgikbbeaaGreat
open Go.ChangeShapes Go.WideShapes Go.ChangeAt Go.RowKit Go.Shelf

/-- What SplitCubes leaves. -/
def SplRes (w : World) (n : Nat) (c : Nat → Int) (e : Ending) (w' : World) : Prop :=
  ∃ A cap, e = .returned (.tuple #[.slice A (splN n c) cap, .bool (varsB n c)]) ∧ FrL w' w.heap.size A (splN n c) (cbL c n) ∧ Below w.heap.size w w'
theorem splRes_no {w w' : World} {n : Nat} {c : Nat → Int} {A : Option Addr} {cap : Nat} (h : varsB n c = false) (hb : Below w.heap.size w w') : SplRes w n c (.returned (.tuple #[.slice A 0 cap, .bool false])) w' :=
  ⟨A, cap, by rw [h, splN_no h], by rw [splN_no h]; exact frl_nil _ _ _ _, hb⟩
theorem splRes_yes {w w' : World} {n : Nat} {c : Nat → Int} {A : Option Addr} {cap : Nat} (h : varsB n c = true) (hF : FrL w' w.heap.size A (2 ^ n) (cbL c n)) (hb : Below w.heap.size w w') : SplRes w n c (.returned (.tuple #[.slice A (2 ^ n) cap, .bool true])) w' :=
  ⟨A, cap, by rw [h, splN_yes h], by rw [splN_yes h]; exact hF, hb⟩
theorem vars_bd {n : Nat} {c : Nat → Int} (h : varsB n c = true) : ∀ i, i < n → 1 ≤ c i ∧ c i ≤ 12 := fun i hi => by
  unfold varsB at h
  simp only [Bool.and_eq_true, decide_eq_true_eq] at h
  exact varR_pos h.1 hi

set_option maxRecDepth 100000 in
set_option maxHeartbeats 800000 in
theorem negLit_any (n : Int) (w : World) :
    Calls Tryz.prog 25 #[.int .i64 n] w fun e w' => e = .returned (.bool (decide (n < 0))) ∧ Below w.heap.size w w' := by
  go_enter Tryz.func25, Tryz.ntmps25
  go_wp2_with fail
  refine (litNegated_any _ _).mono ?_
  rintro e w1 ⟨rfl, rfl⟩
  go_wp2
  go_ret
  exact ⟨rfl, Below.refl _ _⟩

set_option linter.unusedVariables false in
set_option maxRecDepth 100000 in
set_option maxHeartbeats 3200000 in
theorem implSplit_any (A : Option Addr) (n cap : Nat) (c : Nat → Int) (w : World) (hn : n ≤ 1048576) (hr : RdI w w.heap.size A n c) :
    Calls Tryz.prog 7 #[.slice A n cap] w (SplRes w n c) := by
  have hcv := cube_vars (n := n) (c := c)
  cases hcb : cubeB n c with
  | false =>
    rw [hcb, Bool.false_and] at hcv
    have Hfin := Lib.hid hcv.symm
    have Hcb := Lib.hid hcb
    clear hcv hcb
    go_enter Tryz.func7, Tryz.ntmps7
    go_wp2_with fail
    refine (isCube_any _ _ _ c _ hn hr).mono ?_
    rintro e w1 ⟨rfl, hb⟩
    rw [Hcb.out]
    have HB1 := Lib.hid hb
    clear hb
    go_wp2
    go_ret2
    exact splRes_no Hfin.out HB1.out
  | true =>
    rw [hcb, Bool.true_and] at hcv
    have Hcb := Lib.hid hcb
    cases hq : anyQ (fun i => decide (c i < 0)) n with
    | true =>
      rw [hq] at hcv
      have Hfin := Lib.hid (show varsB n c = false from hcv.symm)
      have Hq := Lib.hid hq
      clear hcv hcb hq
      go_enter Tryz.func7, Tryz.ntmps7
      go_wp2_with fail
      refine (isCube_any _ _ _ c _ hn hr).mono ?_
      rintro e w1 ⟨rfl, hb⟩
      rw [Hcb.out]
      have HB1 := Lib.hid hb
      clear hb
      go_wp2_with fail
      refine (containsJ_any 25 #[] _ _ _ c (fun i => decide (c i < 0)) _ hn (hr.later HB1.out) (enters_of Tryz.func25 (by kernel_rfl) rfl) (fun k X hk hX => negLit_any _ _)).mono ?_
      rintro e w2 ⟨rfl, hb⟩
      rw [Hq.out]
      have HB2 := Lib.hid (bl_trans HB1.out hb)
      clear hb
      go_wp2
      go_ret2
      exact splRes_no Hfin.out HB2.out
    | false =>
      rw [hq] at hcv
      have hfin : varsB n c = true := hcv.symm
      have Hfin := Lib.hid hfin
      have h4 := vars_4 hfin
      have HBd := Lib.hid (vars_bd hfin)
      have Hq := Lib.hid hq
      clear hcv hcb hq hfin
      go_enter Tryz.func7, Tryz.ntmps7
      go_wp2_with fail
      refine (isCube_any _ _ _ c _ hn hr).mono ?_
      rintro e w1 ⟨rfl, hb⟩
      rw [Hcb.out]
      have HB1 := Lib.hid hb
      clear hb
      go_wp2_with fail
      refine (containsJ_any 25 #[] _ _ _ c (fun i => decide (c i < 0)) _ hn (hr.later HB1.out) (enters_of Tryz.func25 (by kernel_rfl) rfl) (fun k X hk hX => negLit_any _ _)).mono ?_
      rintro e w2 ⟨rfl, hb⟩
      rw [Hq.out]
      have HB2 := Lib.hid (bl_trans HB1.out hb)
      clear hb
      go_wp2_with fail
      refine (cubesOf_any _ _ _ c _ h4 HBd.out (hr.later HB2.out)).mono ?_
      rintro e w3 ⟨A3, cap3, rfl, hF, hb⟩
      have HF := Lib.hid (hF.more HB2.out.size)
      have HB3 := Lib.hid (bl_trans HB2.out hb)
      clear hb hF
      go_wp2
      go_ret2
      exact splRes_yes Hfin.out HF.out HB3.out
end Go.Proofs.YtnfkhakgikbbeaaGreat

namespace Go.Proofs.YtnfkhakgikbbeaaGreat
open Go.ChangeShapes Go.WideShapes Go.ChangeAt Go.RowKit

set_option linter.unusedVariables false in
set_option maxRecDepth 100000 in
set_option maxHeartbeats 3200000 in
theorem specSplit_any (A : Option Addr) (n cap : Nat) (c : Nat → Int) (w : World) (hn : n ≤ 1048576) (hr : RdI w w.heap.size A n c) :
    Calls Tryz.prog 8 #[.slice A n cap] w (SplRes w n c) := by
  cases hv : varsB n c with
  | false =>
    have Hv := Lib.hid hv
    clear hv
    go_enter Tryz.func8, Tryz.ntmps8
    go_wp2_with fail
    refine (l12Vars_any _ _ _ c _ hn hr).mono ?_
    rintro e w1 ⟨rfl, hb⟩
    rw [Hv.out]
    have HB1 := Lib.hid hb
    clear hb
    go_wp2
    go_ret2
    exact splRes_no Hv.out (bl_alloc HB1.out _)
  | true =>
    have Hv := Lib.hid hv
    have h4 := vars_4 hv
    have HBd := Lib.hid (vars_bd hv)
    clear hv
    go_enter Tryz.func8, Tryz.ntmps8
    go_wp2_with fail
    refine (l12Vars_any _ _ _ c _ hn hr).mono ?_
    rintro e w1 ⟨rfl, hb⟩
    rw [Hv.out]
    have HB1 := Lib.hid hb
    clear hb
    go_wp2_with fail
    refine (l12Cubes_any _ _ _ c _ h4 HBd.out (hr.later HB1.out)).mono ?_
    rintro e w3 ⟨A3, cap3, rfl, hF, hb⟩
    have HF := Lib.hid (hF.more HB1.out.size)
    have HB3 := Lib.hid (bl_trans HB1.out hb)
    clear hb hF
    go_wp2
    go_ret2
    exact splRes_yes Hv.out HF.out HB3.out
end Go.Proofs.YtnfkhakgikbbeaaGreat

namespace Go.Proofs.YtnfkhakgikbbeaaGreat
open Go.ChangeShapes Go.WideShapes Go.ChangeAt Go.RowKit

/-- The constraint that a literal is true. -/
def unC (z : Int) : Con := ⟨1, 1, fun _ => 1, fun _ => z⟩
/-- A problem, followed by the literals of a cube. -/
def undP (n : Nat) (p : Nat → Con) (c : Nat → Int) (i : Nat) : Con := if i < n then p i else unC (c (i - n))
def undOk (n : Nat) (p : Nat → Con) (m : Nat) (c : Nat → Int) : Bool := probB n p && (cubeB m c && decide (n + m ≤ 400))
def undN (n : Nat) (p : Nat → Con) (m : Nat) (c : Nat → Int) : Nat := if undOk n p m c = true then n + m else 0
section
variable {n m i : Nat} {p : Nat → Con} {c : Nat → Int}
theorem undP_lt (h : i < n) : undP n p c i = p i := if_pos h
theorem undP_ge (i : Nat) : undP n p c (n + i) = unC (c i) := by
  unfold undP
  rw [if_neg (by omega), show n + i - n = i by omega]
theorem und_parts (h : undOk n p m c = true) : probB n p = true ∧ cubeB m c = true ∧ n + m ≤ 400 := by
  unfold undOk at h
  simp only [Bool.and_eq_true, decide_eq_true_eq] at h
  exact ⟨h.1, h.2.1, h.2.2⟩
theorem und_yes (h1 : probB n p = true) (h2 : cubeB m c = true) (h3 : n + m ≤ 400) : undOk n p m c = true ∧ undN n p m c = n + m := by
  have h : undOk n p m c = true := by unfold undOk; rw [h1, h2, decide_eq_true h3]; rfl
  exact ⟨h, if_pos h⟩
theorem und_no (h : probB n p = false ∨ cubeB m c = false ∨ ¬ (n + m ≤ 400)) : undOk n p m c = false ∧ undN n p m c = 0 := by
  have h : undOk n p m c = false := by
    unfold undOk
    rcases h with h | h | h
    · rw [h]; rfl
    · rw [h, Bool.false_and, Bool.and_false]
    · rw [decide_eq_false h, Bool.and_false, Bool.and_false]
  exact ⟨h, if_neg (by rw [h]; exact Bool.false_ne_true)⟩
theorem undN_le (n : Nat) (p : Nat → Con) (m : Nat) (c : Nat → Int) : undN n p m c ≤ 400 := by
  unfold undN
  split
  · exact (und_parts ‹_›).2.2
  · omega
theorem und_12 {i : Nat} (hi : i < undN n p m c) : (undP n p c i).n ≤ 12 := by
  unfold undN at hi
  split at hi
  · rename_i h
    obtain ⟨h1, h2, h3⟩ := und_parts h
    unfold undP
    split
    · rename_i hlt
      exact valid_le12 (allV_at (prob_V h1) hlt)
    · show 1 ≤ 12
      omega
  · omega
theorem und_all (n : Nat) (p : Nat → Con) (m : Nat) (c : Nat → Int) (i : Nat) (hi : i < undN n p m c) : (undP n p c i).n ≤ 1048576 := Nat.le_trans (und_12 hi) (by omega)
theorem und_tot (n : Nat) (p : Nat → Con) (m : Nat) (c : Nat → Int) : undN n p m c + 2 * tot (undP n p c) (undN n p m c) ≤ 500000 := by
  have h1 := undN_le n p m c
  have h2 := tot_12 (q := undP n p c) (k := undN n p m c) fun i hi => und_12 hi
  omega
end

/-- What CubeProblem leaves. -/
def UndRes (w : World) (n : Nat) (p : Nat → Con) (m : Nat) (c : Nat → Int) (e : Ending) (w' : World) : Prop :=
  ∃ A cap, e = .returned (.tuple #[.slice A (undN n p m c) cap, .bool (undOk n p m c)]) ∧ FrC w' w.heap.size A (undN n p m c) (undP n p c) ∧ Below w.heap.size w w'
theorem undRes_no {w w' : World} {n : Nat} {p : Nat → Con} {m : Nat} {c : Nat → Int} {A : Option Addr} {cap : Nat} (h : undOk n p m c = false ∧ undN n p m c = 0) (hb : Below w.heap.size w w') : UndRes w n p m c (.returned (.tuple #[.slice A 0 cap, .bool false])) w' :=
  ⟨A, cap, by rw [h.1, h.2], by rw [h.2]; exact frc_nil _ _ _ _, hb⟩
theorem undRes_yes {w w' : World} {n : Nat} {p : Nat → Con} {m : Nat} {c : Nat → Int} {A : Option Addr} {cap : Nat} (h : undOk n p m c = true ∧ undN n p m c = n + m) (hF : FrC w' w.heap.size A (n + m) (undP n p c)) (hb : Below w.heap.size w w') : UndRes w n p m c (.returned (.tuple #[.slice A (n + m) cap, .bool true])) w' :=
  ⟨A, cap, by rw [h.1, h.2], by rw [h.2]; exact hF, hb⟩

/-- The constraint of a literal, just made: its head and its term. -/
theorem und_new (W : World) (z : Int) : ((W.alloc (.cells #[.int .i64 1, .int .i64 z] 83)).alloc (.cells #[.slice (some ⟨W.heap.size, 0, none⟩) 1 1, .int .i64 1] 60)).heap[W.heap.size + 1]? = some (.cells #[.slice (some ⟨W.heap.size, 0, none⟩) (unC z).n 1, .int .i64 (unC z).bd] 60 (0, 0)) := by
  have h9 := heap_alloc_new (W.alloc (.cells #[.int .i64 1, .int .i64 z] 83)) (.cells #[.slice (some ⟨W.heap.size, 0, none⟩) 1 1, .int .i64 1] 60)
  rw [World.size_alloc] at h9
  exact h9
theorem und_frs (W : World) (z : Int) {hi : Nat} (h : hi ≤ W.heap.size) : Frs ((W.alloc (.cells #[.int .i64 1, .int .i64 z] 83)).alloc (.cells #[.slice (some ⟨W.heap.size, 0, none⟩) 1 1, .int .i64 1] 60)) hi (some ⟨W.heap.size, 0, none⟩) (unC z).n (unC z).c (unC z).l := by
  refine .inr ⟨W.heap.size, rfl, h, _, (Below.heap_alloc _ _ _ (by simp)).trans (heap_alloc_new _ _), by simp [unC], fun i hi => ?_⟩
  obtain rfl : i = 0 := by
    have : i < 1 := hi
    omega
  exact ⟨rfl, rfl⟩

/-- A constraint of what came in. -/
theorem und_at {w : World} {A : Option Addr} {n k : Nat} {p : Nat → Con} {c : Nat → Int} (hr : RdPc w w.heap.size A n p) (hlt : k < n) :
    ∃ (b off : Nat) (Ai : Option Addr) (ci : Nat), A = some ⟨b, off, none⟩ ∧ w.cell? ⟨b, off + k * 2, none⟩ = some (.slice Ai (undP n p c k).n ci) ∧ w.cell? ⟨b, off + k * 2 + 1, none⟩ = some (.int .i64 (undP n p c k).bd) ∧ Rd w w.heap.size Ai (undP n p c k).n (undP n p c k).c (undP n p c k).l ∧ (Ai = none → ci = 0) := by
  obtain ⟨b, off, e, _, hc⟩ := hr (by omega)
  obtain ⟨Ai, ci, a1, a2, a3, a4⟩ := hc k hlt
  rw [undP_lt hlt]
  exact ⟨b, off, Ai, ci, e, a1, a2, a3, a4⟩

end Go.Proofs.YtnfkhakgikbbeaaGreat

namespace Go.Proofs.YtnfkhakgikbbeaaGreat
open Go.ChangeShapes Go.WideShapes Go.ChangeAt Go.RowKit

/-- The cells of constraints. -/
def conXs (Af : Nat → Option Addr) (cf : Nat → Nat) (p : Nat → Con) : Nat → List Value
  | 0 => []
  | k + 1 => conXs Af cf p k ++ [.slice (Af k) (p k).n (cf k), .int .i64 (p k).bd]
section
variable {Af : Nat → Option Addr} {cf : Nat → Nat} {p : Nat → Con} {n : Nat}
theorem conXs_len : (conXs Af cf p n).length = n * 2 := by
  induction n with
  | zero => rfl
  | succ n ih => simp [conXs, ih]; omega
theorem conXs_one : ∀ u ∈ conXs Af cf p n, u.oneCell' = true := by
  induction n with
  | zero => intro u hu; cases hu
  | succ n ih =>
    intro u hu
    unfold conXs at hu
    rcases List.mem_append.1 hu with h | h
    · exact ih u h
    · simp at h
      rcases h with rfl | rfl <;> rfl
theorem conXs_at {i : Nat} (hi : i < n) : (conXs Af cf p n)[i * 2]? = some (.slice (Af i) (p i).n (cf i)) ∧ (conXs Af cf p n)[i * 2 + 1]? = some (.int .i64 (p i).bd) := by
  induction n with
  | zero => omega
  | succ n ih =>
    unfold conXs
    by_cases e : i = n
    · subst e
      rw [List.getElem?_append_right (by rw [conXs_len]; omega), List.getElem?_append_right (by rw [conXs_len]; omega), conXs_len]
      refine ⟨?_, ?_⟩
      · rw [Nat.sub_self]; rfl
      · rw [show i * 2 + 1 - i * 2 = 1 by omega]; rfl
    · rw [List.getElem?_append_left (by rw [conXs_len]; omega), List.getElem?_append_left (by rw [conXs_len]; omega)]
      exact ih (by omega)
end
theorem rdpc_cells {w : World} {B : Nat} {A : Option Addr} {n : Nat} {p : Nat → Con} (h : RdPc w B A n p) :
    ∃ Af cf, ∀ j u, (conXs Af cf p n)[j]? = some u → ∃ a, A = some a ∧ w.cell? (a.add j) = some u := by
  rcases Nat.eq_zero_or_pos n with e | e
  · subst e
    exact ⟨fun _ => none, fun _ => 0, fun j u hj => by simp [conXs] at hj⟩
  · obtain ⟨b, off, rfl, _, hc⟩ := h e
    have h1 : ∀ i, ∃ Ai ci, i < n → w.cell? ⟨b, off + i * 2, none⟩ = some (.slice Ai (p i).n ci) ∧ w.cell? ⟨b, off + i * 2 + 1, none⟩ = some (.int .i64 (p i).bd) := fun i => by
      by_cases hi : i < n
      · obtain ⟨Ai, ci, a1, a2, _⟩ := hc i hi
        exact ⟨Ai, ci, fun _ => ⟨a1, a2⟩⟩
      · exact ⟨none, 0, fun h => absurd h hi⟩
    refine ⟨fun i => Classical.choose (h1 i), fun i => Classical.choose (Classical.choose_spec (h1 i)), fun j u hj => ⟨_, rfl, ?_⟩⟩
    have hlt : j < n * 2 := by
      rcases Nat.lt_or_ge j (n * 2) with hlt | hge
      · exact hlt
      · rw [List.getElem?_eq_none (by rw [conXs_len]; exact hge)] at hj; cases hj
    rw [Go.WideShapes.add_plain]
    obtain ⟨i, hi, e⟩ : ∃ i, i < n ∧ (j = i * 2 ∨ j = i * 2 + 1) := ⟨j / 2, by omega, by omega⟩
    have h2 := Classical.choose_spec (Classical.choose_spec (h1 i)) hi
    obtain ⟨c1, c2⟩ := conXs_at (Af := fun i => Classical.choose (h1 i)) (cf := fun i => Classical.choose (Classical.choose_spec (h1 i))) (p := p) hi
    rcases e with e | e
    · subst e
      rw [c1] at hj
      cases hj
      exact h2.1
    · subst e
      rw [c2] at hj
      cases hj
      exact h2.2

theorem wpO_cp {o : Oper} {c : Act} {K : Act → World → Prop} {Q : Exit → Act → World → Prop} {W : World} (s x : Operand) (t e : TypeId)
    (ho : o.op = .call { callee := .builtin .append, args := #[s, x], argTypes := #[t, t] }) (hty : o.type = t) (i : TypeInfo) (z : Value) (size bytes : Nat) (ht : Tryz.prog.underlying t = some (.slice e)) (hi : Tryz.prog.info? e = some i) (hz : i.zero = some z)
    (hsize : i.size = size) (hby : i.bytes = bytes) (hzs : z.cells.size = size) (hsz : 0 < size) {B0 : Nat} {v : Value} {n cap : Nat} {a : Addr} {xs : List Value} (hs : c.eval s = v) (hx : c.eval x = .slice (some a) n cap) (hl : xs.length = n * size)
    (hown : W.ownsRow B0 e size v 0 []) (hlt : ∀ j, v.ownBlock = some j → B0 ≤ j) (hc : ∀ j u, xs[j]? = some u → W.cell? (a.add j) = some u) (h1 : ∀ u ∈ xs, u.oneCell' = true) (hm : n ≤ maxLen) (hbytes : n * bytes ≤ 140737488355328) (hB : B0 ≤ W.heap.size)
    (h : ∀ ov w', w'.ownsRow B0 e size ov n xs → Below B0 W w' → K (c.put o.dst ov) w') :
    o.wp Tryz.prog c W K Q := by
  obtain ⟨v', w', k1, k2, k3, _, _⟩ := run_append_own_at (P := Tryz.prog) W B0 t t e i z size bytes ht hi hz hsize hby hzs hsz v 0 _ hown a n cap xs hl hc h1 (by omega) (by rw [Nat.zero_add]; exact hbytes) hB
  have hb := (Below.refl B0 W).grown k3 hB hlt
  rw [Nat.zero_add, List.nil_append] at k2
  unfold Oper.wp execOp
  simp only [ho, hty, resolve, invoke, builtin, Sem.run_bind, Sem.run_pure, Result.andThen_ok, List.map_toArray, List.map_cons, List.map_nil, hs, hx, k1]
  exact h v' w' k2 hb

set_option linter.unusedVariables false in
set_option maxRecDepth 100000 in
set_option maxHeartbeats 1600000 in
theorem cloneCo_any (A : Option Addr) (n cap : Nat) (p : Nat → Con) (w : World) (hn : n ≤ 1048576) (hr : RdPc w w.heap.size A n p) :
    Calls Tryz.prog 58 #[.slice A n cap] w fun e w' => ∃ ov xs, e = .returned ov ∧ w'.ownsRow w.heap.size 60 2 ov n xs ∧ (∀ i, i < n → (∃ u, xs[i * 2]? = some u) ∧ xs[i * 2 + 1]? = some (.int .i64 (p i).bd)) ∧ Below w.heap.size w w' := by
  have qT : ∀ (w : World) (a : Option Addr) (n c n' c' : Nat), (binOp .eql 23 (.slice a n c) (.slice none n' c')).run Tryz.prog w = .ok (.bool a.isNone) w := fun w a n c n' c' => Lib.run_eql_slice_nil w _ _ a n c n' c' Tryz.underlying23
  cases A with
  | none =>
    have h0 : n = 0 := by
      rcases Nat.eq_zero_or_pos n with e | e
      · exact e
      · obtain ⟨b, off, ha, _⟩ := hr e
        cases ha
    subst h0
    clear hr
    go_enter Tryz.func58, Tryz.ntmps58
    go_wp2
    go_ret
    exact ⟨.slice none 0 0, [], rfl, World.ownsRow_nil _ _ _ _, fun i hi => by omega, Below.refl _ _⟩
  | some a =>
    obtain ⟨i0, hi, hz0, hz1, hz2⟩ := info_parts Tryz.infoCon
    obtain ⟨Af, cf, hcells⟩ := rdpc_cells hr
    have HI := Lib.hid hi
    have HZ0 := Lib.hid hz0
    have HZ1 := Lib.hid hz1
    have HZ2 := Lib.hid hz2
    have HcA := Lib.hid (show ∀ j u, (conXs Af cf p n)[j]? = some u → (w.alloc (.cells #[] 60)).cell? (a.add j) = some u from fun j u hj => by
      obtain ⟨a', ha, hc⟩ := hcells j u hj
      cases ha
      exact kc (bl_alloc (Below.refl w.heap.size w) (.cells #[] 60)) hc)
    have HR0 := Lib.hid (rowX_new w 60 2)
    clear hr hi hz0 hz1 hz2 hcells
    go_enter Tryz.func58, Tryz.ntmps58
    go_wp2_with (at_builtin; refine wpList_plain (by rfl) fun K' hK' => ?_; refine wpO_cp _ _ 23 60 (by rfl) (by rfl) i0 _ 2 32 Tryz.underlying23 HI.out HZ0.out HZ1.out HZ2.out rfl (by omega) (B0 := w.heap.size) (by rfl) (by rfl) conXs_len HR0.out (by intro j hj; cases hj; exact Nat.le_refl _) HcA.out conXs_one (by unfold maxLen; omega) (by omega) (by simp) ?_; intro ov w7 hov hb7; have Hbx := Lib.hid ((bl_alloc (Below.refl w.heap.size w) (.cells #[] 60)).trans hb7); have Hov := Lib.hid hov; clear hov hb7; refine hK' _ _ ?_; clear hK' K')
    go_ret
    exact ⟨ov, _, rfl, Hov.out, fun i hi => ⟨⟨_, (conXs_at hi).1⟩, (conXs_at hi).2⟩, Hbx.out⟩
/-- A row of n constraints of the call's own: the terms of the first k lie in blocks of their own. -/
structure HalfC (w : World) (B hi : Nat) (ov : Value) (n k : Nat) (xs : List Value) (p : Nat → Con) (f : Nat → Nat) : Prop where
  own : w.ownsRow B 60 2 ov n xs
  rest : ∀ i, i < n → (∃ u, xs[i * 2]? = some u) ∧ xs[i * 2 + 1]? = some (.int .i64 (p i).bd)
  els : ∀ i, i < k → ∃ Ai ci, xs[i * 2]? = some (.slice Ai (p i).n ci) ∧ ((p i).n = 0 ∨ (Ai = some ⟨f i, 0, none⟩ ∧ B ≤ f i ∧ f i < hi ∧ OwnU w (f i) (p i).n (p i).n (p i).c (p i).l))
  inj : ∀ i j, i < k → j < k → (p i).n ≠ 0 → (p j).n ≠ 0 → i ≠ j → f i ≠ f j
section
variable {w W w' : World} {B hi hi' n k : Nat} {ov : Value} {xs : List Value} {p : Nat → Con} {f : Nat → Nat}
theorem HalfC.fin (h : HalfC w B hi ov n n xs p f) : GrwC w B hi ov n xs p f :=
  ⟨h.own, h.own.1, fun i hi => by
    obtain ⟨Ai, ci, h1, h2⟩ := h.els i hi
    exact ⟨Ai, ci, h1, (h.rest i hi).2, h2⟩, h.inj⟩
theorem HalfC.form (h : HalfC w B hi ov n k xs p f) (hn : 0 < n) : ∃ g cap cur, ov = .slice (some ⟨g, 0, none⟩) n cap ∧ B ≤ g ∧ w.heap[g]? = some (.cells cur 60 (0, 0)) ∧ cur.toList.take (n * 2) = xs := by
  rcases h.own.2 with ⟨_, h0⟩ | ⟨g, cap, cur, e, hg, hh, _, _, _, ht⟩
  · omega
  · exact ⟨g, cap, cur, e, hg, hh, ht⟩
/-- The terms of the next constraint are laid anew, in a block of their own from hi on. -/
theorem HalfC.next (h : HalfC w B hi ov n k xs p f) (hb : Below w.heap.size w W) (hk : k < n) {g cap : Nat} (hov : ov = .slice (some ⟨g, 0, none⟩) n cap) (hB : B ≤ hi) (hhi : hi ≤ w.heap.size) {A : Option Addr} {ci : Nat} (hel : Frs W w.heap.size A (p k).n (p k).c (p k).l) :
    ∃ xs' f', HalfC (W.setCell ⟨g, k * 2, none⟩ (.slice A (p k).n ci)) B W.heap.size ov n (k + 1) xs' p f' := by
  have htyp : ∀ {G m : Nat} {c l : Nat → Int} {cur : Array Value}, OwnU W G m m c l → W.heap[g]? = some (.cells cur 60 (0, 0)) → G ≠ g := fun hu hh e => by
    obtain ⟨cs, h3, _⟩ := hu
    rw [e, hh] at h3
    injection h3 with h3
    injection h3 with _ h4 _
    exact absurd h4 (by decide)
  rcases h.own.2 with ⟨_, h0⟩ | ⟨g', cap', cur, e, hg, hh, hnc, hcm, hsz, htk⟩
  · omega
  · rw [hov] at e
    cases e
    have hW : W.heap[g]? = some (.cells cur 60 (0, 0)) := (hb.block g (block_lt hh)).trans hh
    have hset : (W.setCell ⟨g, k * 2, none⟩ (.slice A (p k).n ci)).heap[g]? = some (.cells (cur.setIfInBounds (k * 2) (.slice A (p k).n ci)) 60 (0, 0)) := by
      simp [World.setCell, Array.getElem?_modify, hW]
    have hxl := h.own.1
    obtain ⟨g1, hg1⟩ : ∃ g1, (p k).n = 0 ∨ (A = some ⟨g1, 0, none⟩ ∧ w.heap.size ≤ g1 ∧ OwnU W g1 (p k).n (p k).n (p k).c (p k).l) := by
      rcases hel with e | ⟨G, e, h1, h2⟩
      · exact ⟨0, .inl e⟩
      · exact ⟨G, .inr ⟨e, h1, h2⟩⟩
    have hfar : ∀ {G m : Nat} {c l : Nat → Int}, OwnU W G m m c l → OwnU (W.setCell ⟨g, k * 2, none⟩ (.slice A (p k).n ci)) G m m c l := fun hu => hu.at_ (Below.heap_setCell W ⟨g, k * 2, none⟩ _ _ (htyp hu hW))
    have hold : ∀ i, i < k → (p i).n ≠ 0 → f i < hi := fun i hi1 hz => by
      obtain ⟨_, _, _, h3⟩ := h.els i hi1
      rcases h3 with e | ⟨_, _, c, _⟩
      · exact absurd e hz
      · exact c
    have hws := hb.size
    refine ⟨xs.set (k * 2) (.slice A (p k).n ci), fun i => if i = k then g1 else f i, ⟨⟨by rw [List.length_set]; exact hxl, .inr ⟨g, cap, _, hov, hg, hset, hnc, hcm, by simpa using hsz, ?_⟩⟩, fun i hi1 => ?_, fun i hi1 => ?_, fun i j hi1 hj1 hz1 hz2 hne => ?_⟩⟩
    · rw [Array.toList_setIfInBounds, List.take_set, htk]
    · obtain ⟨⟨u, hu⟩, h2⟩ := h.rest i hi1
      refine ⟨?_, by rw [List.getElem?_set_ne (by omega)]; exact h2⟩
      by_cases e : i = k
      · subst e
        exact ⟨_, List.getElem?_set_self (by omega)⟩
      · exact ⟨u, by rw [List.getElem?_set_ne (by omega)]; exact hu⟩
    · by_cases e : i = k
      · subst e
        refine ⟨A, ci, List.getElem?_set_self (by omega), ?_⟩
        rcases hg1 with e | ⟨a1, a2, a3⟩
        · exact .inl e
        · exact .inr ⟨by rw [if_pos rfl]; exact a1, by rw [if_pos rfl]; omega, by rw [if_pos rfl]; exact a3.lt, by rw [if_pos rfl]; exact hfar a3⟩
      · obtain ⟨Ai, ci', h1, h3⟩ := h.els i (by omega)
        refine ⟨Ai, ci', by rw [List.getElem?_set_ne (by omega)]; exact h1, ?_⟩
        simp only [if_neg e]
        rcases h3 with e3 | ⟨a1, a2, a3, a4⟩
        · exact .inl e3
        · exact .inr ⟨a1, a2, by omega, hfar (a4.below hb)⟩
    · have hnew1 : (p k).n ≠ 0 → hi ≤ g1 := fun hz => by
        rcases hg1 with e | ⟨_, a2, _⟩
        · exact absurd e hz
        · omega
      show (if i = k then g1 else f i) ≠ (if j = k then g1 else f j)
      by_cases e : i = k
      · have e2 : j ≠ k := fun e' => hne (by omega)
        rw [if_pos e, if_neg e2]
        have h1 := hold j (by omega) hz2
        have h2 := hnew1 (by rw [← e]; exact hz1)
        omega
      · by_cases e2 : j = k
        · rw [if_pos e2, if_neg e]
          have h1 := hold i (by omega) hz1
          have h2 := hnew1 (by rw [← e2]; exact hz2)
          omega
        · rw [if_neg e, if_neg e2]
          exact h.inj i j (by omega) (by omega) hz1 hz2 hne
end

set_option linter.unusedVariables false in
set_option maxRecDepth 100000 in
set_option maxHeartbeats 3200000 in
theorem copied_any (A : Option Addr) (n cap : Nat) (p : Nat → Con) (w : World) (hn : n ≤ 10000) (hn' : ∀ i, i < n → (p i).n ≤ 1048576) (hr : RdPc w w.heap.size A n p) :
    Calls Tryz.prog 36 #[.slice A n cap] w fun e w' => ∃ ov xs f, e = .returned ov ∧ GrwC w' w.heap.size w'.heap.size ov n xs p f ∧ Below w.heap.size w w' := by
  have HN := Lib.hid hn'
  have HR := Lib.hid hr
  clear hn' hr
  go_enter Tryz.func36, Tryz.ntmps36
  go_wp2_with fail
  refine (cloneCo_any A n cap p _ (by omega) HR.out).mono ?_
  rintro e w1 ⟨ov, xs0, rfl, hown, hrest, hb⟩
  have HH := Lib.hid (show HalfC w1 w.heap.size w1.heap.size ov n 0 xs0 p (fun _ => 0) from ⟨hown, hrest, fun i hi => by omega, fun i j hi => by omega⟩)
  have HB1 := Lib.hid hb
  clear hown hrest hb
  go_wp2
  go_loopw [10] (fun i wr => ∃ (k hi : Nat) (xs : List Value) (f : Nat → Nat), k ≤ n ∧ i = .int .i64 k ∧ HalfC wr w.heap.size hi ov n k xs p f ∧ w.heap.size ≤ hi ∧ hi ≤ wr.heap.size ∧ Below w.heap.size w wr) (fun i _ => n - (intOf i).toNat)
  case atStart => exact ⟨0, w1.heap.size, xs0, fun _ => 0, Nat.zero_le _, rfl, HH.out, HB1.out.size, Nat.le_refl _, HB1.out⟩
  case round =>
    obtain ⟨k, hi, xs, f, hk, rfl, hg, h1, h2, hb⟩ := hrel
    have HG := Lib.hid hg
    have HB := Lib.hid hb
    clear hg hb HH HB1
    by_cases hlt : k < n
    · obtain ⟨b, off, rfl, _, hc⟩ := (HR.out.later HB.out) (by omega)
      obtain ⟨Ai, ci, hx0, hx1, hrq, hcq⟩ := hc k hlt
      obtain ⟨g, capg, cur, rfl, hgg, hgh, hgt⟩ := HG.out.form (by omega)
      have hq := HN.out k hlt
      have hlen := HG.out.own.1
      have HRQ := Lib.hid hrq
      have hkI : (k : Int) < (n : Int) := by omega
      have hk0 : (0 : Int) ≤ (k : Int) := by omega
      have HAl := Lib.hid (bl_alloc (Below.refl wr.heap.size wr) (.cells #[.slice Ai (p k).n ci, .int .i64 (p k).bd] 60))
      have HGb := Lib.hid hgh
      obtain ⟨u, hu⟩ := (HG.out.rest k hlt).1
      have hcu : cur[k * 2]? = some u := by
        rw [← hgt, List.getElem?_take_of_lt (by omega)] at hu
        simpa using hu
      have HCu := Lib.hid hcu
      clear hc hrq hcq hgh hgt hlen hu hcu
      go_wp2_with fail
      refine (clone_any Ai _ ci _ _ _ hq (HRQ.out.later HAl.out)).mono ?_
      rintro e w2 ⟨A2, cap2, rfl, hF, hb2⟩
      have HB2 := Lib.hid (bl_trans HAl.out hb2)
      have hgh2 := (HB2.out.block g (block_lt HGb.out)).trans HGb.out
      have y0 : w2.cell? ⟨g, k * 2, none⟩ = some u := (cell_of_row w2 g _ cur _ _ hgh2).trans HCu.out
      have f0 : w2.frozen? ⟨g, k * 2, none⟩ = false := by simp [World.frozen?, hgh2]
      obtain ⟨xs', f', hn⟩ := HG.out.next (ci := cap2) HB2.out hlt rfl h1 h2 (hF.more (by simp))
      have HN2 := Lib.hid hn
      have HB3 := Lib.hid ((bl_trans HB.out HB2.out).setCell (p := ⟨g, k * 2, none⟩) hgg (.slice A2 (p k).n cap2))
      have hs2 : w.heap.size ≤ w2.heap.size := Nat.le_trans (Nat.le_trans h1 h2) HB2.out.size
      have hs3 : w2.heap.size ≤ (w2.setCell ⟨g, k * 2, none⟩ (.slice A2 (p k).n cap2)).heap.size := by simp [World.setCell]
      have HS3 := Lib.hid hs3
      clear hF hb2 hn HG HB HB2 hgh2 hx0 hx1 HAl HRQ hs3
      go_wp2
      go_roundw
      case rel => exact ⟨k + 1, w2.heap.size, xs', f', by omega, by go_num, HN2.out, hs2, HS3.out, HB3.out⟩
      case measure => simp [intOf]; omega
    · have e : k = n := by omega
      subst e
      have HF := Lib.hid (HG.out.fin)
      have HU : GrwC wr w.heap.size wr.heap.size ov k xs p f := ⟨HF.out.own, HF.out.len, fun i hi0 => by
        obtain ⟨Ai, ci, a1, a2, a3⟩ := HF.out.els i hi0
        exact ⟨Ai, ci, a1, a2, a3.imp id fun ⟨b1, b2, b3, b4⟩ => ⟨b1, b2, by omega, b4⟩⟩, HF.out.inj⟩
      have HV := Lib.hid HU
      clear HF HU HG
      go_wp2
      go_ret
      exact ⟨ov, xs, f, rfl, HV.out, HB.out⟩
end Go.Proofs.YtnfkhakgikbbeaaGreat

namespace Go.Proofs.YtnfkhakgikbbeaaGreat
open Go.ChangeShapes Go.WideShapes Go.ChangeAt Go.RowKit

/-- The clause of one literal. -/
theorem cl_one {x : Int} (h : litB x = true) : clB 1 (fun _ => x) = true ∧ clF 1 (fun _ => x) = [(1, x)] := by
  obtain ⟨h0, h1, h2⟩ := litB_iff.1 h
  have : x = -12 ∨ x = -11 ∨ x = -10 ∨ x = -9 ∨ x = -8 ∨ x = -7 ∨ x = -6 ∨ x = -5 ∨ x = -4 ∨ x = -3 ∨ x = -2 ∨ x = -1 ∨ x = 1 ∨ x = 2 ∨ x = 3 ∨ x = 4 ∨ x = 5 ∨ x = 6 ∨ x = 7 ∨ x = 8 ∨ x = 9 ∨ x = 10 ∨ x = 11 ∨ x = 12 := by omega
  rcases this with e | e | e | e | e | e | e | e | e | e | e | e | e | e | e | e | e | e | e | e | e | e | e | e <;> subst e <;> exact ⟨by decide, by decide⟩
theorem frs_eqv {w : World} {B : Nat} {A : Option Addr} {n : Nat} {c l c' l' : Nat → Int} (h : Frs w B A n c l) (he : ∀ i, i < n → c i = c' i ∧ l i = l' i) : Frs w B A n c' l' := by
  rcases h with h | ⟨G, e, hB, cs, hh, h1, h2⟩
  · exact .inl h
  · refine .inr ⟨G, e, hB, cs, hh, h1, fun i hi => ?_⟩
    rw [← (he i hi).1, ← (he i hi).2]
    exact h2 i hi

/-- A copied problem, as the beginning of the problem under a cube. -/
theorem und_grow {w : World} {B B' hi n : Nat} {ov : Value} {xs : List Value} {p : Nat → Con} {c : Nat → Int} {f : Nat → Nat} (h : GrwC w B hi ov n xs p f) (hB : B' ≤ B) : GrwC w B' hi ov n xs (undP n p c) f := by
  refine ⟨⟨h.own.1, ?_⟩, h.len, fun i hi0 => ?_, fun i j hi0 hj0 => ?_⟩
  · rcases h.own.2 with hh | ⟨g, cap, cur, e1, hg, hr⟩
    · exact .inl hh
    · exact .inr ⟨g, cap, cur, e1, by omega, hr⟩
  · rw [undP_lt hi0]
    obtain ⟨Ai, ci, a1, a2, a3⟩ := h.els i hi0
    exact ⟨Ai, ci, a1, a2, a3.imp id fun ⟨b1, b2, b3, b4⟩ => ⟨b1, by omega, b3, b4⟩⟩
  · rw [undP_lt hi0, undP_lt hj0]
    exact h.inj i j hi0 hj0

set_option maxRecDepth 100000 in
set_option maxHeartbeats 1600000 in
theorem clause1_any (x : Int) (H cap : Nat) (w : World) (hx : litB x = true) (hr : RdI w w.heap.size (some ⟨H, 0, none⟩) 1 (fun _ => x)) :
    Calls Tryz.prog 37 #[.slice (some ⟨H, 0, none⟩) 1 cap] w fun e w' => ∃ A' cap', e = .returned (.agg #[.slice A' 1 cap', .int .i64 1]) ∧ Frs w' w.heap.size A' 1 (fun _ => 1) (fun _ => x) ∧ Below w.heap.size w w' := by
  obtain ⟨c1, c2⟩ := cl_one hx
  have hN : clN 1 (fun _ => x) = 1 := by unfold clN; rw [c1, c2]; rfl
  have hD : clD 1 (fun _ => x) = 1 := by unfold clD; rw [c1]; rfl
  have hc := fun W (hb : Below w.heap.size w W) => implClause_any (some ⟨H, 0, none⟩) 1 cap (fun _ => x) W (by omega) (hr.later hb)
  rw [hN, hD, c1, c2] at hc
  have HC := Lib.hid hc
  clear hN hD c1 c2 hr hc
  go_enter Tryz.func37, Tryz.ntmps37
  go_wp2_with fail
  refine (HC.out _ (bl_alloc (Below.refl _ _) _)).mono ?_
  rintro e w1 ⟨A1, cap1, rfl, hF, hb⟩
  have HF := Lib.hid hF
  have HB := Lib.hid (bl_trans (bl_alloc (Below.refl w.heap.size w) _) hb)
  have r0 : w1.cell? ⟨w.heap.size, 0, none⟩ = some (.slice none 0 0) := kc hb (by go_simp)
  have r1 : w1.cell? ⟨w.heap.size, 1, none⟩ = some (.int .i64 0) := kc hb (by go_simp)
  have f0 : w1.frozen? ⟨w.heap.size, 0, none⟩ = false := kf hb (by simp) (by go_simp)
  have f1 : w1.frozen? ⟨w.heap.size, 1, none⟩ = false := kf hb (by simp) (by go_simp)
  have hz : w.heap.size < w1.heap.size := World.block_lt_of_cell? w1 ⟨w.heap.size, 0, none⟩ r0
  have HAl := Lib.hid (bl_alloc (Below.refl w1.heap.size w1) (.cells #[.slice A1 1 cap1, .int .i64 1] 60))
  have s0 := kc HAl.out r0
  have s1 := kc HAl.out r1
  have g0 := kf HAl.out (p := ⟨w.heap.size, 0, none⟩) hz f0
  have g1 := kf HAl.out (p := ⟨w.heap.size, 1, none⟩) hz f1
  clear hF hb HC
  go_wp2
  refine bodyPost_ret (v := .agg #[.slice A1 1 cap1, .int .i64 1]) (by simp [results, Tryz.results37, go_sem, r0, r1, hz]) rfl ?_
  refine ⟨A1, cap1, rfl, ?_, bl_alloc ((HB.out.setCell (by simp) _).setCell (by simp) _) _⟩
  exact frs_eqv (((((HF.out.far' (by simp) (by simp) _).far' (by simp) (by simp) _).below (bl_alloc (Below.refl _ _) _)).more (by simp))) (fun i hi => by
    obtain rfl : i = 0 := by omega
    exact ⟨rfl, rfl⟩)

/-- An int that has just been laid as a slice of one. -/
theorem rdi_new (W : World) (x : Int) : RdI (W.alloc (.cells #[.int .i64 x] 3)) (W.alloc (.cells #[.int .i64 x] 3)).heap.size (some ⟨W.heap.size, 0, none⟩) 1 (fun _ => x) := fun _ => by
  refine ⟨W.heap.size, 0, rfl, by simp, fun i hi => ?_⟩
  obtain rfl : i = 0 := by omega
  exact (cell_of_row _ W.heap.size _ _ _ _ (heap_alloc_new W _)).trans rfl

set_option linter.unusedVariables false in
set_option maxRecDepth 100000 in
set_option maxHeartbeats 3200000 in
theorem implUnd_any (A Ak : Option Addr) (n cap m capk : Nat) (p : Nat → Con) (c : Nat → Int) (w : World) (hn : n ≤ 1048576) (hn' : ∀ i, i < n → (p i).n ≤ 1048576) (hm : m ≤ 1048576) (hr : RdPc w w.heap.size A n p) (hrk : RdI w w.heap.size Ak m c) :
    Calls Tryz.prog 11 #[.slice A n cap, .slice Ak m capk] w (UndRes w n p m c) := by
  have Hpr := Lib.hid (implProblem_any A n cap p w hn hn' hr.rd)
  cases hv : probB n p with
  | false =>
    have Hfin := Lib.hid (und_no (m := m) (c := c) (.inl hv))
    rw [hv] at Hpr
    clear hv hr hn'
    go_enter Tryz.func11, Tryz.ntmps11
    go_wp2_with fail
    refine Hpr.out.mono ?_
    rintro e w1 ⟨rfl, hb⟩
    have HB1 := Lib.hid hb
    clear hb
    go_wp2
    go_ret2
    exact undRes_no Hfin.out HB1.out
  | true =>
    rw [hv] at Hpr
    have hn4 := prob_400 hv
    cases hkp : cubeB m c with
    | false =>
      have Hfin := Lib.hid (und_no (n := n) (p := p) (.inr (.inl hkp)))
      have Hkp := Lib.hid hkp
      clear hv hr hn' hkp
      go_enter Tryz.func11, Tryz.ntmps11
      go_wp2_with fail
      refine Hpr.out.mono ?_
      rintro e w1 ⟨rfl, hb⟩
      have HB1 := Lib.hid hb
      clear hb
      go_wp2_with fail
      refine (isCube_any Ak m capk c _ hm (hrk.later HB1.out)).mono ?_
      rintro e w2 ⟨rfl, hb⟩
      rw [Hkp.out]
      have HB2 := Lib.hid (bl_trans HB1.out hb)
      clear hb
      go_wp2
      go_ret2
      exact undRes_no Hfin.out HB2.out
    | true =>
      have hm4 := (cube_parts hkp).2.2
      by_cases h400 : n + m ≤ 400
      · have Hfin := Lib.hid (und_yes hv hkp h400)
        have HL := Lib.hid (cube_parts hkp).1
        have Hkp := Lib.hid hkp
        have HN := Lib.hid hn'
        have HR := Lib.hid hr
        have HRk := Lib.hid hrk
        have h4 : ¬ (400 : Int) < (n : Int) + (m : Int) := by omega
        clear hv hr hn' hkp hrk
        go_enter Tryz.func11, Tryz.ntmps11
        go_wp2_with fail
        refine Hpr.out.mono ?_
        rintro e w1 ⟨rfl, hb⟩
        have HB1 := Lib.hid hb
        clear hb
        go_wp2_with fail
        refine (isCube_any Ak m capk c _ hm (HRk.out.later HB1.out)).mono ?_
        rintro e w2 ⟨rfl, hb⟩
        rw [Hkp.out]
        have HB2 := Lib.hid (bl_trans HB1.out hb)
        clear hb
        go_wp2_with fail
        refine (copied_any A n cap p _ (by omega) HN.out (HR.out.later HB2.out)).mono ?_
        rintro e w3 ⟨ov3, xs3, f3, rfl, hg, hb⟩
        have HG3 := Lib.hid (und_grow (c := c) hg HB2.out.size)
        have HB3 := Lib.hid (bl_trans HB2.out hb)
        clear hb hg
        go_wp2
        go_loopw [6, 29] (fun ov i wq => ∃ (j hi : Nat) (xs : List Value) (f : Nat → Nat), j ≤ m ∧ i = .int .i64 j ∧ GrwC wq w.heap.size hi ov (n + j) xs (undP n p c) f ∧ w.heap.size ≤ hi ∧ hi ≤ wq.heap.size ∧ Below w.heap.size w wq) (fun _ i _ => m - (intOf i).toNat)
        case atStart => exact ⟨0, w3.heap.size, xs3, f3, Nat.zero_le _, rfl, HG3.out, HB3.out.size, Nat.le_refl _, HB3.out⟩
        case round =>
          obtain ⟨j, hi, xs, f, hj, rfl, hg, h1, h2, hb⟩ := hrel
          have HG := Lib.hid hg
          have HB := Lib.hid hb
          clear hg hb HG3 HB3
          by_cases hlt : j < m
          · obtain ⟨bk, offk, rfl, _, hck⟩ := (HRk.out.below HB.out) (by omega)
            have hc0 := hck j hlt
            have HU := Lib.hid (show undP n p c (n + j) = unC (c j) from undP_ge j)
            have HLj := Lib.hid (litR_at HL.out hlt)
            have HAl := Lib.hid (bl_alloc (Below.refl wr.heap.size wr) (.cells #[.int .i64 (c j)] 3))
            have HRn := Lib.hid (rdi_new wr (c j))
            clear hck
            go_wp2_with fail
            refine (clause1_any (c j) _ _ _ HLj.out HRn.out).mono ?_
            rintro e w4 ⟨A4, cap4, rfl, hF, hb⟩
            have hb4 := bl_trans HAl.out hb
            have HAl2 := Lib.hid (bl_alloc (Below.refl w4.heap.size w4) (.cells #[.slice A4 1 cap4, .int .i64 1] 60))
            have HG4 := Lib.hid ((HG.out.below hb4).below HAl2.out)
            have HF4 := Lib.hid ((hF.below HAl2.out).more (show hi ≤ _ from Nat.le_trans h2 HAl.out.size))
            have HB4 := Lib.hid (bl_trans (bl_trans HB.out hb4) HAl2.out)
            have HS4 := Lib.hid (Nat.le_trans (Nat.le_trans h2 hb4.size) HAl2.out.size)
            clear hF hb hb4 HG HB HAl HRn hc0
            go_wp2_with (at_builtin; refine wpList_plain (by rfl) fun K' hK' => ?_; refine wp_grw1 (A := A4) (cap := cap4) _ _ (by rfl) HG4.out h1 HS4.out (by rfl) (by rfl) (by rw [HU.out]; exact heap_alloc_new _ _) (by rw [HU.out]; exact HF4.out) (by omega) ?_; intro gg cap2 w5 zs f5 hg5 hgr5; have HG5 := Lib.hid hg5; have HB5 := Lib.hid (HB4.out.grown hgr5 HB4.out.size (fun j e => (HG4.out.lt j e).1)); clear hg5 hgr5; refine hK' _ _ ?_; clear hK' K')
            go_roundw
            case rel => exact ⟨j + 1, _, zs, f5, by omega, by go_num, HG5.out, HB5.out.size, Nat.le_refl _, HB5.out⟩
            case measure => simp [intOf]; omega
          · have e : j = m := by omega
            subst e
            obtain ⟨A1, cap1, rfl, hF⟩ := HG.out.fin
            have HF := Lib.hid hF
            clear hF HG
            go_wp2
            go_ret2
            exact undRes_yes Hfin.out HF.out HB.out
      · have Hfin := Lib.hid (und_no (n := n) (p := p) (m := m) (c := c) (.inr (.inr h400)))
        have Hkp := Lib.hid hkp
        have h4 : (400 : Int) < (n : Int) + (m : Int) := by omega
        clear hv hr hn' hkp
        go_enter Tryz.func11, Tryz.ntmps11
        go_wp2_with fail
        refine Hpr.out.mono ?_
        rintro e w1 ⟨rfl, hb⟩
        have HB1 := Lib.hid hb
        clear hb
        go_wp2_with fail
        refine (isCube_any Ak m capk c _ hm (hrk.later HB1.out)).mono ?_
        rintro e w2 ⟨rfl, hb⟩
        rw [Hkp.out]
        have HB2 := Lib.hid (bl_trans HB1.out hb)
        clear hb
        go_wp2
        go_ret2
        exact undRes_no Hfin.out HB2.out
end Go.Proofs.YtnfkhakgikbbeaaGreat

namespace Go.Proofs.YtnfkhakgikbbeaaGreat
open Go.ChangeShapes Go.WideShapes Go.ChangeAt Go.RowKit

theorem unC_ok {z : Int} (hz : litB z = true) : validB (unC z).n (unC z).c (unC z).l (unC z).bd = true := by
  obtain ⟨h0, h1, h2⟩ := litB_iff.1 hz
  rcases (show z = -12 ∨ z = -11 ∨ z = -10 ∨ z = -9 ∨ z = -8 ∨ z = -7 ∨ z = -6 ∨ z = -5 ∨ z = -4 ∨ z = -3 ∨ z = -2 ∨ z = -1 ∨ z = 1 ∨ z = 2 ∨ z = 3 ∨ z = 4 ∨ z = 5 ∨ z = 6 ∨ z = 7 ∨ z = 8 ∨ z = 9 ∨ z = 10 ∨ z = 11 ∨ z = 12 by omega) with rfl | rfl | rfl | rfl | rfl | rfl | rfl | rfl | rfl | rfl | rfl | rfl | rfl | rfl | rfl | rfl | rfl | rfl | rfl | rfl | rfl | rfl | rfl | rfl <;> rfl
theorem unC_eval {z : Int} (hz : litB z = true) (u : Nat → Bool) : evalV (unC z).n (unC z).c (unC z).l (unC z).bd 12 u = trueP u z := by
  rw [evalV_yes (unC_ok hz)]
  show decide ((1 : Int) ≤ evW (fun _ => 1) (fun _ => z) u 1) = trueP u z
  unfold evW
  have hw : wrap64 1 = 1 := IntWalk.i64_left _ ▸ IntWalk.i64_in _ (by omega)
  cases h : trueP u z <;> simp [sel, sumW, h, hw]
section
variable {n m : Nat} {p : Nat → Con} {c : Nat → Int} {v : Nat → Bool}
theorem und_allV (h : allV p n = true) (hl : litR c m = true) : allV (undP n p c) (n + m) = true := by
  have h1 : ∀ j, j ≤ n → allV (undP n p c) j = allV p j := by
    intro j
    induction j with
    | zero => intro _; rfl
    | succ j ih =>
      intro hj
      unfold allV
      rw [ih (by omega), undP_lt (show j < n by omega)]
  have h2 : ∀ k, k ≤ m → allV (undP n p c) (n + k) = true := by
    intro k
    induction k with
    | zero => intro _; rw [Nat.add_zero, h1 n (Nat.le_refl _)]; exact h
    | succ k ih =>
      intro hk
      show (allV (undP n p c) (n + k) && validB (undP n p c (n + k)).n (undP n p c (n + k)).c (undP n p c (n + k)).l (undP n p c (n + k)).bd) = true
      rw [ih (by omega), undP_ge k, unC_ok (litR_at hl (by omega))]
      rfl
  exact h2 m (Nat.le_refl _)
theorem und_allE (hl : litR c m = true) : allE (undP n p c) v (n + m) = (allE p v n && holdR c v m) := by
  have h1 : ∀ j, j ≤ n → allE (undP n p c) v j = allE p v j := by
    intro j
    induction j with
    | zero => intro _; rfl
    | succ j ih =>
      intro hj
      unfold allE
      rw [ih (by omega), undP_lt (show j < n by omega)]
  have h2 : ∀ k, k ≤ m → allE (undP n p c) v (n + k) = (allE p v n && holdR c v k) := by
    intro k
    induction k with
    | zero => intro _; rw [Nat.add_zero, h1 n (Nat.le_refl _)]; exact (Bool.and_true _).symm
    | succ k ih =>
      intro hk
      show (allE (undP n p c) v (n + k) && evalV (undP n p c (n + k)).n (undP n p c (n + k)).c (undP n p c (n + k)).l (undP n p c (n + k)).bd 12 v) = (allE p v n && (holdR c v k && trueP v (c k)))
      rw [ih (by omega), undP_ge k, unC_eval (litR_at hl (by omega)), Bool.and_assoc]
  exact h2 m (Nat.le_refl _)
theorem und_prob (h : undOk n p m c = true) : probB (n + m) (undP n p c) = true := by
  obtain ⟨h1, h2, h3⟩ := und_parts h
  unfold probB
  rw [und_allV (prob_V h1) (cube_parts h2).1, decide_eq_true h3]
  rfl
theorem und_sat (h : undOk n p m c = true) : satB (n + m) (undP n p c) 12 v = (satB n p 12 v && holdsB m c 12 v) := by
  obtain ⟨h1, h2, h3⟩ := und_parts h
  rw [satB_yes (und_prob h), satB_yes h1, holds_eq h2, und_allE (cube_parts h2).1]
end
end Go.Proofs.YtnfkhakgikbbeaaGreat

namespace Go.Proofs.YtnfkhakgikbbeaaGreat
open Go.ChangeShapes Go.WideShapes Go.ChangeAt Go.RowKit

set_option maxRecDepth 100000 in
set_option maxHeartbeats 1600000 in
theorem cpInts_refl (A A' : Option Addr) (n cap cap' : Nat) (v : Nat → Int) (w : World) (hn : n ≤ 1048576) (hr : RdI w w.heap.size A n v) (hr' : RdI w w.heap.size A' n v) :
    Calls Tryz.prog 32 #[.slice A n cap, .slice A' n cap'] w fun e w' => e = .returned (.bool true) ∧ Below w.heap.size w w' := by
  go_enter Tryz.func32, Tryz.ntmps32
  go_wp2
  go_loopw [5] (fun i wr => ∃ k : Nat, k ≤ n ∧ i = .int .i64 k ∧ Below w.heap.size w wr) (fun i _ => n - (intOf i).toNat)
  case atStart => exact ⟨0, Nat.zero_le _, rfl, Below.refl _ _⟩
  case round =>
    obtain ⟨k, hk, rfl, hb⟩ := hrel
    by_cases hlt : k < n
    · obtain ⟨b, off, rfl, hbl, hc⟩ := (hr.below hb) (by omega)
      obtain ⟨b', off', rfl, hbl', hc'⟩ := (hr'.below hb) (by omega)
      have hc1 := hc k hlt
      have hc2 := hc' k hlt
      clear hc hc' hr hr'
      have hlt' : (k : Int) < (n : Int) := by omega
      have hk0 : (0 : Int) ≤ (k : Int) := by omega
      go_wp2_with fail
      go_quiet (fail)
      go_wp2
      go_roundw
      case rel => exact ⟨k + 1, by omega, by go_num, bl_drewN hb _⟩
      case measure => simp [intOf]; omega
    · have e : k = n := by omega
      subst e
      go_wp2
      go_ret
      exact ⟨rfl, hb⟩

end Go.Proofs.YtnfkhakgikbbeaaGreat

namespace Go.Proofs.YtnfkhakgikbbeaaGreat
open Go.ChangeShapes Go.WideShapes Go.ChangeAt Go.RowKit

/-- How many of the first k hold. -/
def cntT (f : Nat → Bool) : Nat → Nat
  | 0 => 0
  | k + 1 => cntT f k + (if f k = true then 1 else 0)
theorem cntT_le (f : Nat → Bool) (k : Nat) : cntT f k ≤ k := by
  induction k with
  | zero => exact Nat.le_refl _
  | succ k ih =>
    show cntT f k + (if f k = true then 1 else 0) ≤ k + 1
    split <;> omega
theorem cntT_double {f g : Nat → Bool} (m : Nat) (h : ∀ j, (if f (2 * j) = true then 1 else 0) + (if f (2 * j + 1) = true then 1 else 0) = (if g j = true then 1 else 0)) : cntT f (2 * m) = cntT g m := by
  induction m with
  | zero => rfl
  | succ m ih =>
    show cntT f (2 * m) + (if f (2 * m) = true then 1 else 0) + (if f (2 * m + 1) = true then 1 else 0) = cntT g m + (if g m = true then 1 else 0)
    rw [ih, ← h m]
    omega
theorem holdR_eq {c c' : Nat → Int} {v : Nat → Bool} {n : Nat} (h : ∀ i, i < n → c i = c' i) : holdR c v n = holdR c' v n := by
  induction n with
  | zero => rfl
  | succ n ih =>
    unfold holdR
    rw [ih fun i hi => h i (by omega), h n (by omega)]
theorem trueP_ng {v : Nat → Bool} {x : Int} (h : x ≠ 0) : trueP v (-x) = !trueP v x := by
  unfold trueP
  by_cases hp : 0 < x
  · rw [if_neg (by omega), if_pos hp, show (-(-x) - 1).toNat = (x - 1).toNat by omega]
  · rw [if_pos (by omega), if_neg hp, Bool.not_not]
theorem one_holds {c : Nat → Int} {v : Nat → Bool} : ∀ {n : Nat}, (∀ i, i < n → c i ≠ 0) → cntT (fun j => holdR (cbL c n j).x v n) (2 ^ n) = 1 := by
  intro n
  induction n with
  | zero => intro _; rfl
  | succ n ih =>
    intro h
    rw [Nat.pow_succ, Nat.mul_comm, cntT_double (g := fun j => holdR (cbL c n j).x v n)]
    · exact ih fun i hi => h i (by omega)
    · intro j
      have h0 : holdR (cbL c (n + 1) (2 * j)).x v (n + 1) = (holdR (cbL c n j).x v n && trueP v (c n)) := by
        show (holdR (cbL c (n + 1) (2 * j)).x v n && trueP v ((cbL c (n + 1) (2 * j)).x n)) = _
        rw [holdR_eq (c := (cbL c (n + 1) (2 * j)).x) (c' := (cbL c n j).x) (fun i hi => cb_old (b := 0) (by omega) hi), cb_pos]
      have h1 : holdR (cbL c (n + 1) (2 * j + 1)).x v (n + 1) = (holdR (cbL c n j).x v n && !trueP v (c n)) := by
        show (holdR (cbL c (n + 1) (2 * j + 1)).x v n && trueP v ((cbL c (n + 1) (2 * j + 1)).x n)) = _
        rw [holdR_eq (c := (cbL c (n + 1) (2 * j + 1)).x) (c' := (cbL c n j).x) (fun i hi => cb_old (b := 1) (by omega) hi), cb_neg, trueP_ng (h n (Nat.lt_succ_self n))]
      rw [h0, h1]
      cases holdR (cbL c n j).x v n <;> cases trueP v (c n) <;> rfl
theorem cb_cube {c : Nat → Int} {n : Nat} (h : varsB n c = true) (j : Nat) : cubeB n (cbL c n j).x = true := by
  have hb := vars_bd h
  have hl : ∀ k, k ≤ n → litR (cbL c n j).x k = true := by
    intro k
    induction k with
    | zero => intro _; rfl
    | succ k ih =>
      intro hk
      have h1 := hb k (by omega)
      refine litR_yes (ih (by omega)) (litB_iff.2 ?_)
      show (if bitN n j k = true then -(c k) else c k) ≠ 0 ∧ -12 ≤ (if bitN n j k = true then -(c k) else c k) ∧ (if bitN n j k = true then -(c k) else c k) ≤ 12
      split <;> omega
  unfold cubeB
  rw [hl n (Nat.le_refl _), varsB_eq (c' := c) (fun i hi => by
    have h1 := hb i hi
    show ab (if bitN n j i = true then -(c i) else c i) = c i
    unfold ab
    split <;> split <;> omega), h]
  rfl
theorem cb_holds {c : Nat → Int} {n : Nat} {v : Nat → Bool} (h : varsB n c = true) : cntT (fun j => holdsB n (cbL c n j).x 12 v) (2 ^ n) = 1 := by
  have hb := vars_bd h
  rw [show (fun j => holdsB n (cbL c n j).x 12 v) = fun j => holdR (cbL c n j).x v n from funext fun j => holds_eq (cb_cube h j)]
  exact one_holds fun i hi => by have := hb i hi; omega

set_option maxRecDepth 100000 in
set_option maxHeartbeats 1600000 in
theorem cpLists_same (A A' : Option Addr) (n cap cap' : Nat) (r : Nat → Lst) (w : World) (hn : n ≤ 1048576) (hn' : ∀ i, i < n → (r i).n ≤ 1048576) (hr : RdL w w.heap.size A n r) (hr' : RdL w w.heap.size A' n r) :
    Calls Tryz.prog 9 #[.slice A n cap, .slice A' n cap'] w fun e w' => e = .returned (.bool true) ∧ Below w.heap.size w w' := by
  have HR := Lib.hid hr
  have HR' := Lib.hid hr'
  have HN := Lib.hid hn'
  clear hr hr' hn'
  go_enter Tryz.func9, Tryz.ntmps9
  go_wp2
  go_loopw [5] (fun i wr => ∃ k : Nat, k ≤ n ∧ i = .int .i64 k ∧ Below w.heap.size w wr) (fun i _ => n - (intOf i).toNat)
  case atStart => exact ⟨0, Nat.zero_le _, rfl, Below.refl _ _⟩
  case round =>
    obtain ⟨k, hk, rfl, hb⟩ := hrel
    have HB := Lib.hid hb
    clear hb
    by_cases hlt : k < n
    · obtain ⟨b, off, rfl, hbl, hc⟩ := (HR.out.below HB.out) (by omega)
      obtain ⟨b', off', rfl, hbl', hc'⟩ := (HR'.out.below HB.out) (by omega)
      obtain ⟨Ai, ci, hx0, hx2⟩ := hc k hlt
      obtain ⟨Aj, cj, hy0, hy2⟩ := hc' k hlt
      have HX := Lib.hid ((hx2.more HB.out.size).later ((Below.refl _ _).drew))
      have HY := Lib.hid ((hy2.more HB.out.size).later ((Below.refl _ _).drew))
      have hq := HN.out k hlt
      have hltI : (k : Int) < (n : Int) := by omega
      have hk0 : (0 : Int) ≤ (k : Int) := by omega
      have hsz := HB.out.size
      clear hc hc' hx2 hy2
      go_wp2_with fail
      go_still_tail 8, (by kernel_rfl)
      change wpList _ _ _ _ _ wr.drew
      go_wp2_with (go_at_call 32; refine (cpInts_refl _ _ _ _ _ (r k).x _ hq HX.out HY.out).mono ?_; rintro e w' ⟨rfl, hb1⟩)
      go_roundw
      case rel => exact ⟨k + 1, by omega, by go_num, bl_trans HB.out.drew hb1⟩
      case measure => simp [intOf]; omega
    · have e : k = n := by omega
      subst e
      go_wp2
      go_ret
      exact ⟨rfl, HB.out⟩
end Go.Proofs.YtnfkhakgikbbeaaGreat

