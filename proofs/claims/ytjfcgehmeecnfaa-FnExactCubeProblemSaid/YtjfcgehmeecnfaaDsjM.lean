/- The arithmetic of clauses: what both sides hand back, and that a sorted, compacted row of literals is the row of the variables (no claim of its own). Conditions: as each theorem states. -/
import Derived.Test.YtjfcgehmeecnfaaNorC
import Derived.Test.YtjfcgehmeecnfaaLitA
import Derived.Lib.SlicesCompact
import Derived.Sort.Statements
namespace Go.Proofs.Ytjfcgehmeecnfaa
open Go.ChangeShapes Go.WideShapes Go.ChangeAt Go.RowKit

/-- The literal of a variable among the first k, the last one; 0 if there is none. -/
def seenA (lt : Nat → Int) : Nat → Nat → Int
  | 0, _ => 0
  | k + 1, v => if ab (lt k) = (v : Int) then lt k else seenA lt k v
/-- The first k are literals, none with its negation. -/
def okD (lt : Nat → Int) : Nat → Bool
  | 0 => true
  | k + 1 => okD lt k && (litB (lt k) && !(seenA lt k (ab (lt k)).toNat == -(lt k)))
def clAt (x : Int) : List (Int × Int) := if x = 0 then [] else [(1, x)]
def clR (f : Nat → Int) : Nat → List (Int × Int)
  | 0 => []
  | v + 1 => clR f v ++ clAt (f (v + 1))
def clB (n : Nat) (lt : Nat → Int) : Bool := decide (n ≤ 40) && okD lt n
def clF (n : Nat) (lt : Nat → Int) : List (Int × Int) := clR (seenA lt n) 12
def clN (n : Nat) (lt : Nat → Int) : Nat := if clB n lt then (clF n lt).length else 0
def clD (n : Nat) (lt : Nat → Int) : Int := if clB n lt then 1 else 0

theorem ab_split {x y : Int} (h : ab x = ab y) : x = y ∨ x = -y := by
  unfold ab at h
  split at h <;> split at h <;> omega
theorem ab_neg (x : Int) : ab (-x) = ab x := by
  unfold ab
  split <;> split <;> omega

theorem seenA_spec (lt : Nat → Int) (k v : Nat) : (seenA lt k v = 0 ∧ ∀ i, i < k → ab (lt i) ≠ v) ∨ ∃ i, i < k ∧ seenA lt k v = lt i ∧ ab (lt i) = v := by
  induction k with
  | zero => exact .inl ⟨rfl, fun i hi => absurd hi (by omega)⟩
  | succ k ih =>
    by_cases h : ab (lt k) = (v : Int)
    · exact .inr ⟨k, by omega, if_pos h, h⟩
    · have e : seenA lt (k + 1) v = seenA lt k v := if_neg h
      rw [e]
      rcases ih with ⟨h0, h1⟩ | ⟨i, hi, h0, h1⟩
      · refine .inl ⟨h0, fun i hi => ?_⟩
        by_cases e : i = k
        · subst e; exact h
        · exact h1 i (by omega)
      · exact .inr ⟨i, by omega, h0, h1⟩

theorem okD_iff {lt : Nat → Int} {n : Nat} : okD lt n = true ↔ (∀ i, i < n → litB (lt i) = true) ∧ ∀ i j, i < n → j < n → ab (lt i) = ab (lt j) → lt i = lt j := by
  induction n with
  | zero => exact ⟨fun _ => ⟨fun i hi => absurd hi (by omega), fun i j hi => absurd hi (by omega)⟩, fun _ => rfl⟩
  | succ k ih =>
    have step : okD lt (k + 1) = true ↔ okD lt k = true ∧ litB (lt k) = true ∧ seenA lt k (ab (lt k)).toNat ≠ -(lt k) := by
      show (okD lt k && (litB (lt k) && !(seenA lt k (ab (lt k)).toNat == -(lt k)))) = true ↔ _
      simp
    rw [step, ih]
    constructor
    · rintro ⟨⟨h1, h2⟩, hl, hs⟩
      have hp := ab_pos hl
      have hL : ∀ i, i < k + 1 → litB (lt i) = true := fun i hi => by
        by_cases e : i = k
        · subst e; exact hl
        · exact h1 i (by omega)
      have key : ∀ i, i < k → ab (lt i) = ab (lt k) → lt i = lt k := fun i hi e => by
        rcases seenA_spec lt k (ab (lt k)).toNat with ⟨_, hno⟩ | ⟨i', hi', hs', he'⟩
        · exact absurd e (by have := hno i hi; omega)
        · have e1 : lt i = lt i' := h2 i i' hi hi' (by omega)
          rw [hs'] at hs
          rcases ab_split e with h | h
          · exact h
          · rw [e1] at h; exact absurd h hs
      refine ⟨hL, fun i j hi hj e => ?_⟩
      by_cases ei : i = k
      · by_cases ej : j = k
        · rw [ei, ej]
        · rw [ei] at e ⊢; exact (key j (by omega) e.symm).symm
      · by_cases ej : j = k
        · rw [ej] at e ⊢; exact key i (by omega) e
        · exact h2 i j (by omega) (by omega) e
    · rintro ⟨h1, h2⟩
      have hl := h1 k (by omega)
      have h0 := (litB_iff.1 hl).1
      refine ⟨⟨fun i hi => h1 i (by omega), fun i j hi hj => h2 i j (by omega) (by omega)⟩, hl, fun hs => ?_⟩
      rcases seenA_spec lt k (ab (lt k)).toNat with ⟨hz, _⟩ | ⟨i, hi, hs', he⟩
      · omega
      · have e : lt i = -(lt k) := hs'.symm.trans hs
        have := h2 i k (by omega) (by omega) (by rw [e, ab_neg])
        omega

theorem seenA_ab {lt : Nat → Int} {n v : Nat} (h : seenA lt n v ≠ 0) : ab (seenA lt n v) = v := by
  rcases seenA_spec lt n v with ⟨h0, _⟩ | ⟨i, _, h1, h2⟩
  · exact absurd h0 h
  · rw [h1, h2]
theorem seenA_mem {lt : Nat → Int} {n v : Nat} (h : seenA lt n v ≠ 0) : ∃ i, i < n ∧ lt i = seenA lt n v := by
  rcases seenA_spec lt n v with ⟨h0, _⟩ | ⟨i, hi, h1, _⟩
  · exact absurd h0 h
  · exact ⟨i, hi, h1.symm⟩

theorem clR_length (f : Nat → Int) (v : Nat) : (clR f v).length ≤ v := by
  induction v with
  | zero => exact Nat.le_refl _
  | succ v ih =>
    show (clR f v ++ clAt (f (v + 1))).length ≤ _
    rw [List.length_append]
    have : (clAt (f (v + 1))).length ≤ 1 := by unfold clAt; split <;> simp
    omega
theorem clR_one (f : Nat → Int) (v : Nat) : ∀ r ∈ clR f v, r.1 = 1 := by
  induction v with
  | zero => intro r h; cases h
  | succ v ih =>
    intro r h
    rcases List.mem_append.1 h with h | h
    · exact ih r h
    · unfold clAt at h
      split at h
      · cases h
      · simp at h; rw [h]
theorem clR_mem (f : Nat → Int) (v : Nat) (x : Int) : x ∈ (clR f v).map (·.2) ↔ x ≠ 0 ∧ ∃ u, 1 ≤ u ∧ u ≤ v ∧ f u = x := by
  induction v with
  | zero => exact ⟨fun h => (by cases h), fun ⟨_, u, h1, h2, _⟩ => (by omega)⟩
  | succ v ih =>
    show x ∈ (clR f v ++ clAt (f (v + 1))).map (·.2) ↔ _
    rw [List.map_append, List.mem_append, ih]
    constructor
    · rintro (⟨h0, u, h1, h2, h3⟩ | h)
      · exact ⟨h0, u, h1, by omega, h3⟩
      · unfold clAt at h
        split at h
        · cases h
        · rename_i hne
          simp at h
          exact ⟨by rw [h]; exact hne, v + 1, by omega, by omega, h.symm⟩
    · rintro ⟨h0, u, h1, h2, h3⟩
      by_cases e : u = v + 1
      · right
        subst e
        unfold clAt
        rw [if_neg (by rw [h3]; exact h0)]
        simp [h3]
      · exact .inl ⟨h0, u, h1, by omega, h3⟩
theorem clR_asc (lt : Nat → Int) (n v : Nat) : ((clR (seenA lt n) v).map (·.2)).Pairwise (fun a b => ab a < ab b) := by
  induction v with
  | zero => exact List.Pairwise.nil
  | succ v ih =>
    show ((clR (seenA lt n) v ++ clAt (seenA lt n (v + 1))).map (·.2)).Pairwise _
    rw [List.map_append, List.pairwise_append]
    refine ⟨ih, ?_, fun a ha b hb => ?_⟩
    · unfold clAt
      split
      · exact List.Pairwise.nil
      · simp
    · obtain ⟨h0, u, h1, h2, rfl⟩ := (clR_mem _ _ _).1 ha
      unfold clAt at hb
      split at hb
      · cases hb
      · rename_i hne
        simp at hb
        subst hb
        rw [seenA_ab h0, seenA_ab hne]
        omega

/-- Two rows that ascend strictly and have the same members are one. -/
theorem asc_eq : ∀ (A B : List Int), A.Pairwise (fun a b => ab a < ab b) → B.Pairwise (fun a b => ab a < ab b) → (∀ x, x ∈ A ↔ x ∈ B) → A = B
  | [], [], _, _, _ => rfl
  | [], b :: B, _, _, h => absurd ((h b).2 (List.mem_cons_self ..)) (by simp)
  | a :: A, [], _, _, h => absurd ((h a).1 (List.mem_cons_self ..)) (by simp)
  | a :: A, b :: B, hA, hB, h => by
    obtain ⟨ha, hA'⟩ := List.pairwise_cons.1 hA
    obtain ⟨hb, hB'⟩ := List.pairwise_cons.1 hB
    have e : a = b := by
      rcases List.mem_cons.1 ((h a).1 (List.mem_cons_self ..)) with e | h1
      · exact e
      · rcases List.mem_cons.1 ((h b).2 (List.mem_cons_self ..)) with e | h2
        · exact e.symm
        · have := ha b h2
          have := hb a h1
          omega
    subst e
    rw [asc_eq A B hA' hB' fun x => ⟨fun hx => ?_, fun hx => ?_⟩]
    · rcases List.mem_cons.1 ((h x).1 (List.mem_cons_of_mem _ hx)) with e | h1
      · subst e; have := ha x hx; omega
      · exact h1
    · rcases List.mem_cons.1 ((h x).2 (List.mem_cons_of_mem _ hx)) with e | h1
      · subst e; have := hb x hx; omega
      · exact h1

theorem vtB_lt {c l : Nat → Int} {n : Nat} (h : vtB c l n = true) {i j : Nat} (hij : i < j) (hj : j < n) : ab (l i) < ab (l j) := by
  induction j with
  | zero => omega
  | succ j ih =>
    have h1 := (okAt_iff.1 (vtB_at h hj)).2.2.2
    have h2 : ab (l j) < ab (l (j + 1)) := h1
    by_cases e : i = j
    · subst e; exact h2
    · have := ih (by omega) (by omega); omega
theorem vtB_of {c l : Nat → Int} {n : Nat} (h : ∀ k, k < n → okAt c l k = true) : vtB c l n = true := by
  induction n with
  | zero => rfl
  | succ n ih =>
    unfold vtB
    rw [ih (fun k hk => h k (by omega)), h n (Nat.lt_succ_self n)]
    rfl

/-- What sorting by the variable and compacting leave: the members of the row, ascending, no neighbours alike. -/
structure Sorted1 (lt : Nat → Int) (n : Nat) (K : List Int) : Prop where
  mem : ∀ x, x ∈ K ↔ ∃ i, i < n ∧ lt i = x
  asc : K.Pairwise (fun a b => ab a ≤ ab b)
  one : (∀ a ∈ K, ∀ b ∈ K, ab a = ab b → a = b) → K.Pairwise (fun a b => ab a < ab b)

def getK (K : List Int) (i : Nat) : Int := K.getD i 0
theorem getK_at {K : List Int} {i : Nat} (h : i < K.length) : getK K i = K[i] := by
  simp [getK, List.getD, List.getElem?_eq_getElem h]

theorem clause_same {lt : Nat → Int} {n : Nat} {K : List Int} (h : Sorted1 lt n K) (hl : ∀ i, i < n → litB (lt i) = true) : validB K.length one1 (getK K) 1 = okD lt n := by
  have hlit : ∀ x ∈ K, litB x = true := fun x hx => by
    obtain ⟨i, hi, e⟩ := (h.mem x).1 hx
    rw [← e]; exact hl i hi
  have hv : validB K.length one1 (getK K) 1 = vtB one1 (getK K) K.length := by simp [validB]
  rw [hv, Bool.eq_iff_iff, okD_iff]
  constructor
  · intro hvt
    refine ⟨hl, fun i j hi hj e => ?_⟩
    obtain ⟨a, ha, ea⟩ := List.getElem_of_mem ((h.mem (lt i)).2 ⟨i, hi, rfl⟩)
    obtain ⟨b, hb, eb⟩ := List.getElem_of_mem ((h.mem (lt j)).2 ⟨j, hj, rfl⟩)
    rw [← ea, ← eb, ← getK_at ha, ← getK_at hb] at e ⊢
    rcases Nat.lt_trichotomy a b with hab | hab | hab
    · have := vtB_lt hvt hab hb; omega
    · rw [hab]
    · have := vtB_lt hvt hab ha; omega
  · rintro ⟨_, h2⟩
    have hp := h.one fun a ha b hb e => by
      obtain ⟨i, hi, rfl⟩ := (h.mem a).1 ha
      obtain ⟨j, hj, rfl⟩ := (h.mem b).1 hb
      exact h2 i j hi hj e
    refine vtB_of fun k hk => okAt_iff.2 ⟨by rw [getK_at hk]; exact hlit _ (List.getElem_mem hk), by show (1 : Int) ≤ 1; omega, by show (1 : Int) ≤ 1000; omega, ?_⟩
    cases k with
    | zero => exact (by have := ab_pos (hlit _ (List.getElem_mem hk)); rw [← getK_at hk] at this; show (0 : Int) < _; omega)
    | succ k =>
      show ab (getK K k) < ab (getK K (k + 1))
      rw [getK_at hk, getK_at (show k < K.length by omega)]
      exact List.pairwise_iff_getElem.1 hp k (k + 1) (by omega) hk (by omega)

theorem clause_rows {lt : Nat → Int} {n : Nat} {K : List Int} (h : Sorted1 lt n K) (hok : okD lt n = true) : K = (clF n lt).map (·.2) := by
  obtain ⟨hl, h2⟩ := okD_iff.1 hok
  refine asc_eq _ _ (h.one fun a ha b hb e => ?_) (clR_asc lt n 12) fun x => ?_
  · obtain ⟨i, hi, rfl⟩ := (h.mem a).1 ha
    obtain ⟨j, hj, rfl⟩ := (h.mem b).1 hb
    exact h2 i j hi hj e
  · rw [h.mem, show (clF n lt).map (·.2) = (clR (seenA lt n) 12).map (·.2) from rfl, clR_mem]
    constructor
    · rintro ⟨i, hi, rfl⟩
      have hp := ab_pos (hl i hi)
      refine ⟨(litB_iff.1 (hl i hi)).1, (ab (lt i)).toNat, by omega, by omega, ?_⟩
      rcases seenA_spec lt n (ab (lt i)).toNat with ⟨_, hno⟩ | ⟨j, hj, hs, he⟩
      · exact absurd (hno i hi) (by omega)
      · rw [hs]; exact h2 j i hj hi (by omega)
    · rintro ⟨h0, u, _, _, rfl⟩
      exact seenA_mem h0

theorem getK_rows (R : List (Int × Int)) : getK (R.map (·.2)) = rL R := by
  funext i
  simp only [getK, rL, List.getD, List.getElem?_map]
  cases R[i]? <;> rfl
theorem rows_flat {R : List (Int × Int)} (h : ∀ r ∈ R, r.1 = 1) : rcells R = flat one1 (rL R) R.length := by
  rw [rcells_flat]
  refine flat_congr fun i hi => ⟨?_, rfl⟩
  show (R.getD i (0, 0)).1 = 1
  rw [List.getD, List.getElem?_eq_getElem hi]
  exact h _ (List.getElem_mem hi)

/-- What is left of a sorted row by compaction. -/
theorem sorted_compact {lt : Nat → Int} {n : Nat} {d d' : Array Int} (lf : Int → Int → Bool) (hlf : ∀ x y, litB x = true → litB y = true → lf x y = decide (ab x < ab y))
    (hn : d.size = n) (hd : ∀ i, i < n → d[i]! = lt i) (hl : ∀ i, i < n → litB (lt i) = true) (hp : Go.Sort.PermIn 0 d.size d d') (hs : Go.Sort.SortedIn lf 0 d.size d') :
    Sorted1 lt n (Go.Lib.compactUpTo d' d'.size) := by
  obtain ⟨hsz, _, hperm⟩ := hp
  have e1 : (d'.extract 0 d.size) = d' := by rw [← hsz]; simp
  have e2 : (d.extract 0 d.size) = d := by simp
  rw [e1, e2] at hperm
  have hmem' : ∀ x, (∃ j, j < n ∧ d'[j]! = x) ↔ ∃ i, i < n ∧ lt i = x := fun x => by
    have h1 := hperm.mem_iff (a := x)
    constructor
    · rintro ⟨j, hj, e⟩
      have hx : x ∈ d'.toList := by
        rw [← e, getElem!_pos d' j (by omega)]
        exact (Array.mem_toList_iff).2 (Array.getElem_mem _)
      obtain ⟨i, hi, e'⟩ := List.getElem_of_mem (h1.1 hx)
      have hi' : i < d.size := by simpa using hi
      refine ⟨i, by omega, ?_⟩
      rw [← hd i (by omega), getElem!_pos d i hi', ← e']
      simp
    · rintro ⟨i, hi, e⟩
      have hx : x ∈ d.toList := by
        rw [← e, ← hd i hi, getElem!_pos d i (by omega)]
        exact (Array.mem_toList_iff).2 (Array.getElem_mem _)
      obtain ⟨j, hj, e'⟩ := List.getElem_of_mem (h1.2 hx)
      have hj' : j < d'.size := by simpa using hj
      refine ⟨j, by omega, ?_⟩
      rw [getElem!_pos d' j hj', ← e']
      simp
  have hlit : ∀ j, j < n → litB d'[j]! = true := fun j hj => by
    obtain ⟨i, hi, e⟩ := (hmem' d'[j]!).1 ⟨j, hj, rfl⟩
    rw [← e]; exact hl i hi
  have hle : ∀ i j, i ≤ j → j < n → ab d'[i]! ≤ ab d'[j]! := fun i j hij hj => by
    by_cases e : i = j
    · subst e; exact Int.le_refl _
    · have h3 := hs i j (by omega) (by omega) (by omega)
      rw [hlf _ _ (hlit j hj) (hlit i (by omega))] at h3
      have := of_decide_eq_false h3
      omega
  have hdn : d'.size = n := by omega
  have hback : ∀ j, j < n → d'[j]! ∈ Go.Lib.compactUpTo d' d'.size := by
    intro j
    induction j with
    | zero =>
      intro hj
      exact List.mem_map.2 ⟨0, List.mem_filter.2 ⟨List.mem_range.2 (by omega), by simp [Go.Lib.keeps]⟩, rfl⟩
    | succ j ih =>
      intro hj
      by_cases hk : Go.Lib.keeps d' (j + 1) = true
      · exact List.mem_map.2 ⟨j + 1, List.mem_filter.2 ⟨List.mem_range.2 (by omega), hk⟩, rfl⟩
      · have e : d'[j + 1]! = d'[j]! := by
          simp [Go.Lib.keeps] at hk
          exact hk
        rw [e]
        exact ih (by omega)
  have hout : ∀ x, x ∈ Go.Lib.compactUpTo d' d'.size → ∃ j, j < n ∧ d'[j]! = x := fun x hx => by
    obtain ⟨j, hj, e⟩ := List.mem_map.1 hx
    exact ⟨j, by have := List.mem_range.1 (List.mem_filter.1 hj).1; omega, e⟩
  refine ⟨fun x => ⟨fun hx => (hmem' x).1 (hout x hx), fun hx => ?_⟩, ?_, fun hone => ?_⟩
  · obtain ⟨j, hj, e⟩ := (hmem' x).2 hx
    rw [← e]; exact hback j hj
  · unfold Go.Lib.compactUpTo
    rw [List.pairwise_map, List.pairwise_filter]
    refine (List.pairwise_lt_range (n := d'.size)).imp_of_mem fun {a b} ha hb hab _ _ => hle a b (by omega) (by have := List.mem_range.1 hb; omega)
  · unfold Go.Lib.compactUpTo
    rw [List.pairwise_map, List.pairwise_filter]
    refine (List.pairwise_lt_range (n := d'.size)).imp_of_mem fun {a b} ha hb hab _ hkb => ?_
    have hbn : b < n := by have := List.mem_range.1 hb; omega
    have hne : d'[b]! ≠ d'[b - 1]! := by
      have h5 := of_decide_eq_true hkb
      rcases h5 with h5 | h5
      · omega
      · exact h5
    have h6 := hle a (b - 1) (by omega) (by omega)
    have h7 := hle (b - 1) b (by omega) hbn
    have h8 : ab d'[b]! ≠ ab d'[b - 1]! := fun e => hne (hone _ (hback b hbn) _ (hback (b - 1) (by omega)) e)
    omega
end Go.Proofs.Ytjfcgehmeecnfaa
