/- Implied literals are forced: plain facts (no claim of its own). Conditions: as each theorem states. -/
import Derived.Test.YtfgmkaajcbmlmaaImpB
import Derived.Test.YtfgmkaajcbmlmaaExtB
namespace Go.Proofs.Ytfgmkaajcbmlmaa
open Go.ChangeShapes Go.WideShapes Go.ChangeAt Go.RowKit Go.Shelf

theorem vt_mono {c l : Nat → Int} {n : Nat} (h : vtB c l n = true) : ∀ j i, i < j → j < n → ab (l i) < ab (l j) := by
  intro j
  induction j with
  | zero => intro i hi; omega
  | succ j ih =>
    intro i hi hj
    have h1 := vtB_at h hj
    have h2 : ab (l j) < ab (l (j + 1)) := by simp [okAt] at h1; exact h1.2
    by_cases e : i = j
    · subst e; exact h2
    · have := ih i (by omega) (by omega)
      omega
theorem valid_vt {n : Nat} {c l : Nat → Int} {bd : Int} (h : validB n c l bd = true) : vtB c l n = true := by
  unfold validB at h
  rw [Bool.and_eq_true] at h
  exact h.1
theorem ab_ne {n : Nat} {c l : Nat → Int} {bd : Int} (h : validB n c l bd = true) {i j : Nat} (hi : i < n) (hj : j < n) (hne : i ≠ j) : ab (l i) ≠ ab (l j) := by
  have hm := vt_mono (valid_vt h)
  rcases Nat.lt_or_gt_of_ne hne with h1 | h1
  · have := hm j i h1 hj; omega
  · have := hm i j h1 hi; omega
theorem mem_imL {c l v : Nat → Int} {s : Int} {n : Nat} {x : Int} : x ∈ imL c l v s n ↔ ∃ j, j < n ∧ x = l j ∧ stV v (l j) = 0 ∧ s < c j := by
  induction n with
  | zero => simp [imL]
  | succ n ih =>
    by_cases h : stV v (l n) = 0 ∧ s < c n
    · rw [imL_yes h.1 h.2, List.mem_append, ih, List.mem_singleton]
      constructor
      · rintro (⟨j, hj, e⟩ | e)
        · exact ⟨j, by omega, e⟩
        · exact ⟨n, by omega, e, h⟩
      · rintro ⟨j, hj, e⟩
        by_cases ej : j = n
        · subst ej; exact .inr e.1
        · exact .inl ⟨j, by omega, e⟩
    · rw [imL_no h, ih]
      constructor
      · rintro ⟨j, hj, e⟩; exact ⟨j, by omega, e⟩
      · rintro ⟨j, hj, e⟩
        by_cases ej : j = n
        · subst ej; exact absurd e.2 h
        · exact ⟨j, by omega, e⟩

/-- The assignment with the variable of a literal x made to falsify it. -/
def qv (v : Nat → Int) (x : Int) (i : Nat) : Int := if (i : Int) + 1 = ab x then (if 0 < x then -1 else 1) else v i
theorem qv_bd {v : Nat → Int} {x : Int} (hv : ∀ i, i < 12 → -1 ≤ v i ∧ v i ≤ 1) : ∀ i, i < 12 → -1 ≤ qv v x i ∧ qv v x i ≤ 1 := fun i hi => by
  have := hv i hi
  unfold qv
  split
  · split <;> omega
  · exact this
theorem stV_qv_other {v : Nat → Int} {x y : Int} (hy : litB y = true) (hne : ab x ≠ ab y) : stV (qv v x) y = stV v y := by
  obtain ⟨h0, h1, h2⟩ := litB_iff.1 hy
  unfold stV
  have hab : ab y = if y < 0 then -y else y := rfl
  by_cases hp : 0 < y
  · rw [if_pos hp, if_pos hp]
    unfold qv
    rw [if_neg (by rw [if_neg (by omega)] at hab; omega)]
  · rw [if_neg hp, if_neg hp]
    unfold qv
    rw [if_neg (by rw [if_pos (by omega)] at hab; omega)]
theorem stV_qv_same {v : Nat → Int} {x : Int} (hx : litB x = true) : stV (qv v x) x = -1 := by
  obtain ⟨h0, h1, h2⟩ := litB_iff.1 hx
  unfold stV
  have hab : ab x = if x < 0 then -x else x := rfl
  by_cases hp : 0 < x
  · rw [if_pos hp]
    unfold qv
    rw [if_pos (by rw [if_neg (by omega)] at hab; omega), if_pos hp]
  · rw [if_neg hp]
    unfold qv
    rw [if_pos (by rw [if_pos (by omega)] at hab; omega), if_neg hp]
theorem sB_qv {n : Nat} {c l : Nat → Int} {bd : Int} {v : Nat → Int} (hval : validB n c l bd = true) {k : Nat} (hk : k < n) (h0 : stV v (l k) = 0) : ∀ m, m ≤ n → sB c l (nfP (qv v (l k))) m = sB c l (nfP v) m - (if k < m then c k else 0) := by
  intro m
  induction m with
  | zero => intro _; simp [sB]
  | succ m ih =>
    intro hm
    have h1 := ih (by omega)
    by_cases e : m = k
    · subst e
      rw [sB_no (P := nfP (qv v (l m))) (by unfold nfP; rw [stV_qv_same (litAt hval hk)]; decide), sB_yes (P := nfP v) (by unfold nfP; rw [h0]; decide), h1]
      rw [if_neg (by omega), if_pos (by omega)]
      omega
    · have hnf : nfP (qv v (l k)) (l m) = nfP v (l m) := by
        unfold nfP
        rw [stV_qv_other (litAt hval (by omega)) (ab_ne hval hk (by omega) (fun h => e h.symm))]
      cases hp : nfP v (l m) with
      | true =>
        rw [sB_yes (P := nfP (qv v (l k))) (by rw [hnf, hp]), sB_yes hp, h1]
        by_cases hkm : k < m
        · rw [if_pos hkm, if_pos (by omega)]; omega
        · rw [if_neg hkm, if_neg (by omega)]; omega
      | false =>
        rw [sB_no (P := nfP (qv v (l k))) (by rw [hnf, hp]), sB_no hp, h1]
        by_cases hkm : k < m
        · rw [if_pos hkm, if_pos (by omega)]
        · rw [if_neg hkm, if_neg (by omega)]
/-- A literal is implied exactly if it is free and its negation would violate the constraint. -/
theorem implied_iff {n : Nat} {c l : Nat → Int} {bd : Int} {v : Nat → Int} (hval : validB n c l bd = true) {k : Nat} (hk : k < n) :
    anyQ (fun j => gI (imL c l v (slk n c l bd v) n) j == l k) (imL c l v (slk n c l bd v) n).length = true ↔ stV v (l k) = 0 ∧ slk n c l bd (qv v (l k)) < 0 := by
  rw [anyQ_list (fun x => x == l k), List.any_eq_true]
  constructor
  · rintro ⟨x, hx, e⟩
    rw [beq_iff_eq] at e
    subst e
    obtain ⟨j, hj, e, h0, hlt⟩ := mem_imL.1 hx
    have hjk : j = k := by
      by_cases hne : j = k
      · exact hne
      · exact absurd (by rw [e]) (ab_ne hval hj hk hne)
    subst hjk
    refine ⟨h0, ?_⟩
    have := sB_qv hval hk h0 n (Nat.le_refl _)
    rw [if_pos hk] at this
    unfold slk at hlt ⊢
    omega
  · rintro ⟨h0, hlt⟩
    refine ⟨l k, mem_imL.2 ⟨k, hk, rfl, h0, ?_⟩, by simp⟩
    have := sB_qv hval hk h0 n (Nat.le_refl _)
    rw [if_pos hk] at this
    unfold slk at hlt ⊢
    omega

/-- Twelve values as a list. -/
def L12 (v : Nat → Int) : List Int := [v 0, v 1, v 2, v 3, v 4, v 5, v 6, v 7, v 8, v 9, v 10, v 11]
theorem L12_map (v : Nat → Int) : (L12 v).map vI = cl12 v := rfl
theorem L12_at (v : Nat → Int) {i : Nat} (h : i < 12) : gI (L12 v) i = v i := by
  match i, h with
  | 0, _ => rfl
  | 1, _ => rfl
  | 2, _ => rfl
  | 3, _ => rfl
  | 4, _ => rfl
  | 5, _ => rfl
  | 6, _ => rfl
  | 7, _ => rfl
  | 8, _ => rfl
  | 9, _ => rfl
  | 10, _ => rfl
  | 11, _ => rfl
theorem OwnV.upd {w : World} {G n : Nat} {T : TypeId} {v : Nat → Int} (h : OwnV w G T n n v) {j : Nat} (hj : j < n) (z : Int) : OwnV (w.setCell ⟨G, j, none⟩ (.int .i64 z)) G T n n (fun i => if i = j then z else v i) := by
  obtain ⟨cs, hh, h1, h2⟩ := h
  refine ⟨cs.setIfInBounds j (.int .i64 z), by simp [World.setCell, Array.getElem?_modify, hh], by simp [h1], fun i hi => ?_⟩
  rw [Array.getElem?_setIfInBounds]
  by_cases e : i = j
  · subst e
    rw [if_pos rfl, if_pos (by omega)]
    show some (Value.int .i64 z) = some (.int .i64 (if i = i then z else v i))
    rw [if_pos rfl]
  · rw [if_neg (fun e' => e e'.symm)]
    show cs[i]? = some (.int .i64 (if i = j then z else v i))
    rw [if_neg e]
    exact h2 i hi
theorem OwnV.same {w : World} {G n : Nat} {T : TypeId} {v v' : Nat → Int} (h : OwnV w G T n n v) (he : ∀ i, i < n → v i = v' i) : OwnV w G T n n v' := by
  obtain ⟨cs, hh, h1, h2⟩ := h
  exact ⟨cs, hh, h1, fun i hi => by rw [← he i hi]; exact h2 i hi⟩
end Go.Proofs.Ytfgmkaajcbmlmaa
