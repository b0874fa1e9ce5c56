/- A constraint whose slack is negative has no extension that satisfies it: plain facts (no claim of its own). Conditions: as each theorem states. · Contracts of the model's and the program's ConstraintSame (no claim of its own). Conditions: as each theorem states. · The negation of a constraint is its complement: plain facts (no claim of its own). Conditions: as each theorem states. · Rows of uses from which some are deleted (no claim of its own). Conditions: as each theorem states. · The program's (*propagator).forget: the deletion of uses (no claim of its own). Conditions: as each theorem states. · A propagator from which a constraint is forgotten (no claim of its own). Conditions: as each theorem states. · The program's (*propagator).forget (no claim of its own). Conditions: as each theorem states. · Reverse unit propagation: what it comes to (no claim of its own). Conditions: as each theorem states. · The program's (*propagator).follows (no claim of its own). Conditions: as each theorem states. · Problems as sources of an append (no claim of its own). Conditions: as each theorem states. · The model's RupConstraint (no claim of its own). Conditions: as each theorem states. · The model's and the program's RupConstraint, whole (no claim of its own). Conditions: as each theorem states. -/
import Derived.Test.YtooknldfkcdneaaSlkC
import Derived.Test.YtooknldfkcdneaaExtA
import Derived.Test.YtooknldfkcdneaaEvaB
import Derived.Test.YtooknldfkcdneaaComA
import Derived.Test.YtooknldfkcdneaaValidB
import Derived.Laws.StructEq
import Derived.Test.YtooknldfkcdneaaNgtA
import Derived.Test.YtooknldfkcdneaaPgZ
import Derived.Lib.SliceRun
import Derived.Deep.RegionHeld3
import Derived.Deep.QuietTactic
import Derived.BigQuiet
import Derived.Deep.RegionLaw
import Derived.StillTailTactics
import Derived.Test.YtooknldfkcdneaaNgtB
import Derived.Test.YtooknldfkcdneaaUniM
import Derived.Laws.MakeOwn
namespace Go.Proofs.Ytooknldfkcdneaa
open Go.ChangeShapes Go.WideShapes Go.ChangeAt Go.RowKit Go.Shelf

theorem agT_at {v : Nat → Int} {u : Nat → Bool} {n k : Nat} (h : agT v u n = true) (hk : k < n) : agP (v k) (u k) = true := by
  cases hq : agP (v k) (u k) with
  | true => rfl
  | false => rw [agT_no hk hq] at h; cases h
theorem true_nf {v : Nat → Int} {u : Nat → Bool} {l : Int} (hl : litB l = true) (hv : ∀ i, i < 12 → -1 ≤ v i ∧ v i ≤ 1) (h : agT v u 12 = true) (ht : trueP u l = true) : nfP v l = true := by
  obtain ⟨h0, h1, h2⟩ := litB_iff.1 hl
  unfold nfP stV
  rw [decide_eq_true_eq]
  unfold trueP at ht
  by_cases hp : 0 < l
  · rw [if_pos hp] at ht ⊢
    have h3 := agT_at h (show (l - 1).toNat < 12 by omega)
    have h4 := hv (l - 1).toNat (by omega)
    rw [ht] at h3
    have h5 : v (l - 1).toNat ≠ -1 := by
      intro e
      rw [e] at h3
      exact absurd h3 (by decide)
    omega
  · rw [if_neg hp] at ht ⊢
    have h3 := agT_at h (show (-l - 1).toNat < 12 by omega)
    have h4 := hv (-l - 1).toNat (by omega)
    have ht' : u (-l - 1).toNat = false := by simpa using ht
    rw [ht'] at h3
    have h5 : v (-l - 1).toNat ≠ 1 := by
      intro e
      rw [e] at h3
      exact absurd h3 (by decide)
    omega
theorem sB_mono {c l : Nat → Int} {P Q : Int → Bool} {n : Nat} (hc : ∀ i, i < n → 1 ≤ c i ∧ c i ≤ 1000) (h : ∀ i, i < n → P (l i) = true → Q (l i) = true) : sB c l P n ≤ sB c l Q n := by
  induction n with
  | zero => exact Int.le_refl _
  | succ n ih =>
    have h1 := ih (fun i hi => hc i (by omega)) (fun i hi => h i (by omega))
    have h2 := hc n (by omega)
    cases hp : P (l n) with
    | true => rw [sB_yes hp, sB_yes (h n (by omega) hp)]; omega
    | false =>
      rw [sB_no hp]
      cases hq : Q (l n) with
      | true => rw [sB_yes hq]; omega
      | false => rw [sB_no hq]; exact h1
/-- Negative slack is a conflict. -/
theorem slack_conflict {n : Nat} {c l : Nat → Int} {bd : Int} {np : Nat} {v : Nat → Int} {nv : Nat} {u : Nat → Bool} (hn : n ≤ 1048576) (hneg : slk n c l bd v < 0) (hext : extB np v nv u = true) (hev : evalV n c l bd nv u = true) : False := by
  unfold extB at hext
  rw [Bool.and_eq_true, Bool.and_eq_true] at hext
  obtain ⟨hp, h12, hag⟩ := hext
  obtain ⟨_, hv⟩ := pvB_iff.1 hp
  unfold evalV at hev
  rw [Bool.and_eq_true, Bool.and_eq_true] at hev
  obtain ⟨hval, _, hle⟩ := hev
  rw [decide_eq_true_eq] at hle
  unfold evW at hle
  rw [sumW_sB hn (coef_of hval)] at hle
  have := sB_mono (c := c) (l := l) (P := trueP u) (Q := nfP v) (coef_of hval) (fun i hi ht => true_nf (litAt hval hi) hv hag ht)
  unfold slk at hneg
  omega
end Go.Proofs.Ytooknldfkcdneaa

namespace Go.Proofs.Ytooknldfkcdneaa
open Go.ChangeShapes Go.WideShapes Go.ChangeAt Go.RowKit

theorem teq_no1 {c l c' l' : Int} (h : ¬ c = c') : (!teq c l c' l') = true := by simp [teq, h]
theorem teq_no2 {c l c' l' : Int} (h : ¬ l = l') : (!teq c l c' l') = true := by simp [teq, h]
theorem teq_yes {c l c' l' : Int} (h : c = c') (h' : l = l') : (!teq c l c' l') = false := by simp [teq, h, h']

/-- Two constraints are equal in every field. -/
def same (n n' : Nat) (c l c' l' : Nat → Int) (bd bd' : Int) : Bool := bd == bd' && (n == n' && tseq c l c' l' n)

theorem same_no {n n' : Nat} {c l c' l' : Nat → Int} {bd bd' : Int} (h : bd ≠ bd' ∨ n ≠ n') : same n n' c l c' l' bd bd' = false := by
  rcases h with h | h <;> simp [same, h]

end Go.Proofs.Ytooknldfkcdneaa

namespace Go.Proofs.Ytooknldfkcdneaa
open Go.ChangeShapes Go.WideShapes Go.ChangeAt Go.RowKit Go.Shelf

theorem litB_neg (x : Int) : litB (-x) = litB x := by
  rw [Bool.eq_iff_iff, litB_iff, litB_iff]; omega
theorem ab_neg (x : Int) : ab (-x) = ab x := by unfold ab; split <;> split <;> omega
theorem okAt_neg (c l : Nat → Int) (k : Nat) : okAt c (negL l) k = okAt c l k := by
  cases k <;> simp only [okAt, negL, litB_neg, ab_neg]
theorem vtB_neg (c l : Nat → Int) (n : Nat) : vtB c (negL l) n = vtB c l n := by
  induction n with
  | zero => rfl
  | succ n ih => unfold vtB; rw [ih, okAt_neg]
theorem trueP_neg {v : Nat → Bool} {x : Int} (h : litB x = true) : trueP v (-x) = !trueP v x := by
  obtain ⟨h0, h1, h2⟩ := litB_iff.1 h
  unfold trueP
  by_cases hp : 0 < x
  · rw [if_neg (by omega), if_pos hp, Int.neg_neg]
  · rw [if_pos (by omega), if_neg hp, Bool.not_not]
theorem sB_neg {c l : Nat → Int} {v : Nat → Bool} {n : Nat} (h : ∀ i, i < n → litB (l i) = true) : sB c (negL l) (trueP v) n = sB c l (fun _ => true) n - sB c l (trueP v) n := by
  induction n with
  | zero => rfl
  | succ n ih =>
    have h1 := ih (fun i hi => h i (by omega))
    have h2 := trueP_neg (v := v) (h n (by omega))
    rw [sB_yes (P := fun _ => true) rfl]
    cases hp : trueP v (l n) with
    | true => rw [sB_no (l := negL l) (by show trueP v (-(l n)) = false; rw [h2, hp]; rfl), sB_yes hp, h1]; omega
    | false => rw [sB_yes (l := negL l) (by show trueP v (-(l n)) = true; rw [h2, hp]; rfl), sB_no hp, h1]; omega
theorem negB_val {n : Nat} {c l : Nat → Int} {bd : Int} (hn : n ≤ 13) (hval : validB n c l bd = true) : negB n c l bd = sB c l (fun _ => true) n - bd + 1 := by
  have h1 := sB_le (l := l) (P := fun _ => true) (coef_of hval)
  have h2 := bound_of hval
  unfold negB totW
  rw [sumW_sB (by omega) (coef_of hval), IntWalk.i64_in (sB c l (fun _ => true) n - bd) (by omega), IntWalk.i64_in _ (by omega)]
theorem neg_valid {n : Nat} {c l : Nat → Int} {bd : Int} (hn : n ≤ 13) (hval : validB n c l bd = true) : validB n c (negL l) (negBd n c l bd) = true := by
  have h1 := sB_le (l := l) (P := fun _ => true) (coef_of hval)
  have h2 := bound_of hval
  have h3 := negB_val hn hval
  have hv := hval
  unfold validB at hv ⊢
  rw [Bool.and_eq_true] at hv ⊢
  refine ⟨by rw [vtB_neg]; exact hv.1, ?_⟩
  simp only [Bool.and_eq_true, decide_eq_true_eq]
  unfold negBd
  split <;> omega
theorem neg_eval {n : Nat} {c l : Nat → Int} {bd : Int} {v : Nat → Bool} (hn : n ≤ 13) (hval : validB n c l bd = true) : evalV n c (negL l) (negBd n c l bd) 12 v = !evalV n c l bd 12 v := by
  have h1 := sB_le (l := l) (P := fun _ => true) (coef_of hval)
  have h3 := negB_val hn hval
  have h4 := sB_neg (c := c) (l := l) (v := v) (n := n) (fun i hi => litAt hval hi)
  have h5 := sB_mono (c := c) (l := l) (P := trueP v) (Q := fun _ => true) (coef_of hval) (fun _ _ _ => rfl)
  rw [evalV_yes (neg_valid hn hval), evalV_yes hval]
  unfold evW
  rw [sumW_sB (by omega) (coef_of hval), sumW_sB (by omega) (coef_of hval), h4, Bool.eq_iff_iff, Bool.not_eq_true', decide_eq_true_eq, decide_eq_false_iff_not]
  unfold negBd
  split <;> omega
theorem same_refl (n : Nat) (c l : Nat → Int) (bd : Int) : same n n c l c l bd bd = true := by simp [same, tseq_refl]
end Go.Proofs.Ytooknldfkcdneaa

namespace Go.Proofs.Ytooknldfkcdneaa
open Go.ChangeShapes Go.WideShapes Go.ChangeAt Go.RowKit Go.Shelf

/-- The uses of other constraints. -/
def kp (k : Nat) (L : List (Nat × Int)) : List (Nat × Int) := L.filter fun r => r.1 != k
theorem kp_all {k : Nat} {L : List (Nat × Int)} (h : ∀ r ∈ L, r.1 ≠ k) : kp k L = L := List.filter_eq_self.2 fun r hr => by simpa using h r hr
theorem kp_none {k : Nat} {L : List (Nat × Int)} (h : ∀ r ∈ L, r.1 = k) : kp k L = [] := List.filter_eq_nil_iff.2 fun r hr => by simpa using h r hr
theorem kp_append (k : Nat) (L M : List (Nat × Int)) : kp k (L ++ M) = kp k L ++ kp k M := List.filter_append L M
def ug (L : List (Nat × Int)) (t : Nat) : Nat × Int := L.getD t (0, 0)
theorem ug_at {L : List (Nat × Int)} {t : Nat} (h : t < L.length) : ug L t = L[t] := by unfold ug; rw [List.getD_eq_getElem?_getD, List.getElem?_eq_getElem h]; rfl
theorem kp_yes {k : Nat} {L : List (Nat × Int)} {j : Nat} (h : j < L.length) (hk : (ug L j).1 ≠ k) : kp k (L.take (j + 1)) = kp k (L.take j) ++ [ug L j] := by
  rw [ug_at h] at hk ⊢
  rw [List.take_succ_eq_append_getElem h, kp_append, kp_all (L := [L[j]]) (by simpa using hk)]
theorem kp_no {k : Nat} {L : List (Nat × Int)} {j : Nat} (h : j < L.length) (hk : (ug L j).1 = k) : kp k (L.take (j + 1)) = kp k (L.take j) := by
  rw [ug_at h] at hk
  rw [List.take_succ_eq_append_getElem h, kp_append, kp_none (L := [L[j]]) (by simpa using hk), List.append_nil]
theorem kp_len (k : Nat) (L : List (Nat × Int)) (j : Nat) : (kp k (L.take j)).length ≤ j := Nat.le_trans (List.length_filter_le _ _) (by rw [List.length_take]; exact Nat.min_le_left _ _)
theorem ug_snoc {M : List (Nat × Int)} {r : Nat × Int} {t : Nat} (h : t < M.length) : ug (M ++ [r]) t = ug M t := by
  rw [ug_at h, ug_at (by rw [List.length_append]; omega), List.getElem_append_left]
theorem ug_last {M : List (Nat × Int)} {r : Nat × Int} : ug (M ++ [r]) M.length = r := by
  rw [ug_at (by simp)]
  simp
theorem take_ucells : ∀ (M : List (Nat × Int)) (cs : List Value), (∀ t, t < M.length → cs[t * 2]? = some (.int .i64 ((ug M t).1 : Nat)) ∧ cs[t * 2 + 1]? = some (.int .i64 (ug M t).2)) → cs.take (M.length * 2) = ucells M
  | [], _, _ => by simp [ucells]
  | r :: M, cs, h => by
    obtain ⟨a, b⟩ := h 0 (by simp)
    match cs, a, b with
    | x :: y :: cs, a, b =>
      have hx : x = .int .i64 (r.1 : Nat) := by simpa [ug] using a
      have hy : y = .int .i64 r.2 := by simpa [ug] using b
      have := take_ucells M cs fun t ht => by
        have := h (t + 1) (by simpa using ht)
        rw [show (t + 1) * 2 = t * 2 + 1 + 1 by omega] at this
        simpa [ug] using this
      rw [List.length_cons, show (M.length + 1) * 2 = M.length * 2 + 1 + 1 by omega, List.take_succ_cons, List.take_succ_cons, this, hx, hy]
      rfl

/-- The block of a row of uses: the first i are those of M, those from j on those of L. -/
def URow (w : World) (g cap : Nat) (L M : List (Nat × Int)) (i j : Nat) : Prop :=
  ∃ cur : Array Value, w.heap[g]? = some (.cells cur 123 (0, 0)) ∧ cur.size = cap * 2 ∧ (∀ t, t < i → cur[t * 2]? = some (.int .i64 ((ug M t).1 : Nat)) ∧ cur[t * 2 + 1]? = some (.int .i64 (ug M t).2)) ∧ ∀ t, j ≤ t → t < L.length → cur[t * 2]? = some (.int .i64 ((ug L t).1 : Nat)) ∧ cur[t * 2 + 1]? = some (.int .i64 (ug L t).2)
section
variable {w w' : World} {g cap i j : Nat} {L M : List (Nat × Int)}
theorem URow.lt (h : URow w g cap L M i j) : g < w.heap.size := by
  obtain ⟨cur, hh, _⟩ := h
  rcases Nat.lt_or_ge g w.heap.size with hlt | hge
  · exact hlt
  · rw [Array.getElem?_eq_none hge] at hh; cases hh
theorem URow.same (h : URow w g cap L M i j) (hg : w'.heap[g]? = w.heap[g]?) : URow w' g cap L M i j := by
  obtain ⟨cur, hh, h1⟩ := h
  exact ⟨cur, hg.trans hh, h1⟩
theorem URow.bel (h : URow w g cap L M i j) (hb : Below w.heap.size w w') : URow w' g cap L M i j := h.same (hb.block g h.lt)
theorem URow.frozen (h : URow w g cap L M i j) (o : Nat) : w.frozen? ⟨g, o, none⟩ = false := by
  obtain ⟨cur, hh, _⟩ := h
  simp [World.frozen?, hh]
theorem URow.some_ (h : URow w g cap L M i j) {o : Nat} (ho : o < cap * 2) : ∃ u, w.cell? ⟨g, o, none⟩ = some u := by
  obtain ⟨cur, hh, h1, _⟩ := h
  exact ⟨cur[o]'(by omega), (cell_of_row w g _ cur _ _ hh).trans (Array.getElem?_eq_getElem (by omega))⟩
theorem URow.at_ (h : URow w g cap L M i j) {t : Nat} (h1 : j ≤ t) (h2 : t < L.length) : w.cell? ⟨g, t * 2, none⟩ = some (.int .i64 ((ug L t).1 : Nat)) ∧ w.cell? ⟨g, t * 2 + 1, none⟩ = some (.int .i64 (ug L t).2) := by
  obtain ⟨cur, hh, _, _, h3⟩ := h
  obtain ⟨a, b⟩ := h3 t h1 h2
  exact ⟨(cell_of_row w g _ cur _ _ hh).trans a, (cell_of_row w g _ cur _ _ hh).trans b⟩
theorem URow.move (h : URow w g cap L M i j) (hi : i ≤ j) (hc : j < cap) (hM : M.length = i) (r : Nat × Int) : URow ((w.setCell ⟨g, i * 2, none⟩ (.int .i64 (r.1 : Nat))).setCell ⟨g, i * 2 + 1, none⟩ (.int .i64 r.2)) g cap L (M ++ [r]) (i + 1) (j + 1) := by
  obtain ⟨cur, hh, h1, h2, h3⟩ := h
  refine ⟨(cur.setIfInBounds (i * 2) (.int .i64 (r.1 : Nat))).setIfInBounds (i * 2 + 1) (.int .i64 r.2), by simp [World.setCell, Array.getElem?_modify, hh], by simp [h1], fun t ht => ?_, fun t h4 h5 => ?_⟩
  · simp only [Array.getElem?_setIfInBounds]
    by_cases e : t = i
    · subst e
      have el : ug (M ++ [r]) t = r := hM ▸ ug_last
      rw [el]
      exact ⟨by rw [if_neg (by omega), if_pos rfl, if_pos (by omega)], by rw [if_pos rfl, if_pos (by simp; omega)]⟩
    · rw [ug_snoc (by omega)]
      obtain ⟨a, b⟩ := h2 t (by omega)
      exact ⟨by rw [if_neg (by omega), if_neg (by omega)]; exact a, by rw [if_neg (by omega), if_neg (by omega)]; exact b⟩
  · obtain ⟨a, b⟩ := h3 t (by omega) h5
    simp only [Array.getElem?_setIfInBounds]
    exact ⟨by rw [if_neg (by omega), if_neg (by omega)]; exact a, by rw [if_neg (by omega), if_neg (by omega)]; exact b⟩
theorem URow.skip (h : URow w g cap L M i j) : URow w g cap L M i (j + 1) := by
  obtain ⟨cur, hh, h1, h2, h3⟩ := h
  exact ⟨cur, hh, h1, h2, fun t a b => h3 t (by omega) b⟩
theorem URow.end_ (h : URow w g cap L M i j) : URow w g cap L M i L.length := by
  obtain ⟨cur, hh, h1, h2, h3⟩ := h
  exact ⟨cur, hh, h1, h2, fun t a b => by omega⟩
theorem URow.tail : ∀ (vs : List Value) (o : Nat) (w : World), URow w g cap L M i L.length → i * 2 ≤ o → URow (w.setCells g o vs) g cap L M i L.length
  | [], _, _, h, _ => h
  | v :: vs, o, w, h, ho => by
    obtain ⟨cur, hh, h1, h2, h3⟩ := h
    refine URow.tail vs (o + 1) (w.setCell ⟨g, o, none⟩ v) ⟨cur.setIfInBounds o v, by simp [World.setCell, Array.getElem?_modify, hh], by simp [h1], fun t ht => ?_, fun t a b => by omega⟩ (by omega)
    obtain ⟨a, b⟩ := h2 t ht
    simp only [Array.getElem?_setIfInBounds]
    exact ⟨by rw [if_neg (by omega)]; exact a, by rw [if_neg (by omega)]; exact b⟩
theorem URow.row (h : URow w g cap L M i j) (hM : M.length = i) (hi : i ≤ cap) (hc : cap ≤ maxLen) : w.ownsRow 0 123 2 (.slice (some ⟨g, 0, none⟩) i cap) i (ucells M) := by
  obtain ⟨cur, hh, h1, h2, _⟩ := h
  have he := take_ucells M cur.toList fun t ht => by
    obtain ⟨a, b⟩ := h2 t (by omega)
    exact ⟨by rw [Array.getElem?_toList]; exact a, by rw [Array.getElem?_toList]; exact b⟩
  rw [hM] at he
  exact ⟨by rw [← he, List.length_take, Array.length_toList, h1]; omega, .inr ⟨g, cap, cur, rfl, Nat.zero_le _, hh, hi, hc, h1, he⟩⟩
end
theorem row_urow {w : World} {g cap n : Nat} {L : List (Nat × Int)} (h : w.ownsRow 0 123 2 (.slice (some ⟨g, 0, none⟩) n cap) n (ucells L)) (hn : n = L.length) : URow w g cap L L L.length 0 ∧ n ≤ cap ∧ cap ≤ maxLen := by
  rcases h.2 with ⟨e, _⟩ | ⟨g', cap', cur, e, _, hh, h1, h2, h3, h4⟩
  · cases e
  · cases e
    have key : ∀ t, t < L.length → cur[t * 2]? = some (.int .i64 ((ug L t).1 : Nat)) ∧ cur[t * 2 + 1]? = some (.int .i64 (ug L t).2) := fun t ht => by
      obtain ⟨a, b⟩ := ucells_at L t ht
      rw [← h4] at a b
      rw [List.getElem?_take_of_lt (by omega)] at a b
      rw [ug_at ht]
      exact ⟨by simpa using a, by simpa using b⟩
    exact ⟨⟨cur, hh, h3, key, fun t _ ht => key t ht⟩, h1, h2⟩
/-- The zeroing of a tail of uses. -/
theorem run_clearU (w : World) (g o n c : Nat) (ty : TypeId) (hn : 0 < n) (hc : ∀ j, j < n * 2 → (w.cell? ⟨g, o + j, none⟩).isSome = true) (hf : ∀ j, j < n * 2 → w.frozen? ⟨g, o + j, none⟩ = false) :
    ∃ vs : List Value, (Builtin.clear_ #[100] ty #[.slice (some ⟨g, o, none⟩) n c]).run Try.prog w = .ok (.tuple #[]) (w.setCells g o vs) := by
  obtain ⟨i0, hi, hz0, hz1, hz2⟩ := info_parts Try.infoUse
  have hv : ∀ w, (zeroValue 123).run Try.prog w = .ok (.agg #[.int .i64 0, .int .i64 0]) w := fun w => by
    kernel_rfl
  obtain ⟨zs, hzs⟩ : ∃ zs, (Builtin.zeroCells (Value.agg #[.int .i64 0, .int .i64 0]).cells n).toList = zs := ⟨_, rfl⟩
  have hlen : zs.length = n * 2 := by rw [← hzs]; simp [Builtin.zeroCells, Value.cells]
  have hone : ∀ v ∈ zs, v.oneCell' = true := fun v hv => by
    rw [← hzs] at hv
    simp only [Builtin.zeroCells, Array.toList_map, List.mem_map, Value.cells] at hv
    obtain ⟨i, _, rfl⟩ := hv
    rcases (show i % 2 = 0 ∨ i % 2 = 1 by omega) with e | e <;> simp [e, Value.oneCell']
  have hst := run_storeCells_cells (P := Try.prog) g o zs 0 w (by simpa [hlen] using hc) (by simpa [hlen] using hf) hone
  simp only [Nat.add_zero] at hst
  obtain ⟨m, rfl⟩ : ∃ m, n = m + 1 := ⟨n - 1, by omega⟩
  exact ⟨zs, by simp [Builtin.clear_, run_underlying Try.underlying100, hv, hzs, hst]⟩
end Go.Proofs.Ytooknldfkcdneaa

namespace Go.Proofs.Ytooknldfkcdneaa
open Go.ChangeShapes Go.WideShapes Go.ChangeAt Go.RowKit Go.Shelf

set_option maxHeartbeats 800000 in
theorem forgotten_any (X a k : Nat) (c : Int) (w : World) (hx : w.cell? ⟨X, 0, none⟩ = some (.int .i64 (k : Nat))) :
    Calls Try.prog 94 #[.agg #[.int .i64 (a : Nat), .int .i64 c], .pointer (some ⟨X, 0, none⟩)] w fun e w' => e = .returned (.bool (a == k)) ∧ Below w.heap.size w w' := by
  have hx1 := kc (bl_alloc (Below.refl w.heap.size w) (.cells #[.int .i64 (a : Nat), .int .i64 c] 123)) hx
  go_enter Try.func94, Try.ntmps94
  go_wp2
  go_ret
  refine ⟨?_, bl_alloc (Below.refl _ _) _⟩
  rw [show ((a : Int) == (k : Int)) = (a == k) from Bool.eq_iff_iff.2 ⟨fun h => by rw [beq_iff_eq] at *; omega, fun h => by rw [beq_iff_eq] at *; omega⟩]
  rfl

set_option maxRecDepth 100000 in
set_option maxHeartbeats 1600000 in
theorem indexUse_any (X k : Nat) (Au : Option Addr) (n cap : Nat) (L : List (Nat × Int)) (w : World) (hlen : n ≤ 2000000000) (hx : w.cell? ⟨X, 0, none⟩ = some (.int .i64 (k : Nat)))
    (hr : 0 < n → ∃ g, Au = some ⟨g, 0, none⟩ ∧ ∀ t, t < n → w.cell? ⟨g, t * 2, none⟩ = some (.int .i64 ((ug L t).1 : Nat)) ∧ w.cell? ⟨g, t * 2 + 1, none⟩ = some (.int .i64 (ug L t).2)) :
    Calls Try.prog 98 #[.slice Au n cap, .func (.func 94) #[] #[.pointer (some ⟨X, 0, none⟩)]] w fun e w' => ∃ m : Int, e = .returned (.int .i64 m) ∧ Below w.heap.size w w' ∧ ((m = -1 ∧ ∀ t, t < n → (ug L t).1 ≠ k) ∨ ∃ i : Nat, m = (i : Int) ∧ i < n ∧ (ug L i).1 = k ∧ ∀ t, t < i → (ug L t).1 ≠ k) := by
  go_enter Try.func98, Try.ntmps98
  go_wp2
  go_loopw [8] (fun i wr => ∃ j : Nat, j ≤ n ∧ i = .int .i64 j ∧ Below w.heap.size w wr ∧ ∀ t, t < j → (ug L t).1 ≠ k) (fun i _ => n - (intOf i).toNat)
  case atStart => exact ⟨0, Nat.zero_le _, rfl, Below.refl _ _, fun t ht => by omega⟩
  case round =>
    obtain ⟨j, hj, rfl, hb, hp⟩ := hrel
    have HB := Lib.hid hb
    have HP := Lib.hid hp
    clear hp
    by_cases hlt : j < n
    · obtain ⟨g, rfl, hc⟩ := hr (by omega)
      obtain ⟨c0, c1⟩ := hc j hlt
      replace c0 := kc hb c0
      replace c1 := kc hb c1
      have hx1 := kc hb hx
      have hjI : (j : Int) < (n : Int) := by omega
      have hj0 : (0 : Int) ≤ (j : Int) := by omega
      obtain ⟨a, ha⟩ : ∃ a, (ug L j).1 = a := ⟨_, rfl⟩
      have HA := Lib.hid ha
      rw [ha] at c0
      clear hc hr hb hx ha
      go_wp2_with fail
      refine (forgotten_any X a k _ _ hx1).mono ?_
      rintro e w1 ⟨rfl, hb1⟩
      have HB1 := Lib.hid (bl_trans HB.out hb1)
      clear hb1 HB hx1 c0 c1
      by_cases hq : a = k
      · subst hq
        rw [show (a == a) = true from by simp]
        go_wp2
        go_ret
        exact ⟨_, rfl, HB1.out, .inr ⟨j, rfl, hlt, HA.out, HP.out⟩⟩
      · rw [show (a == k) = false from by simpa using hq]
        have HQ := Lib.hid hq
        clear hq
        go_wp2
        go_roundw
        case rel => exact ⟨j + 1, by omega, by go_num, HB1.out, fun t ht => by
          by_cases e : t = j
          · subst e; rw [HA.out]; exact HQ.out
          · exact HP.out t (by omega)⟩
        case measure => simp [intOf]; omega
    · have e : j = n := by omega
      subst e
      clear hr hx hb
      go_wp2
      go_ret
      exact ⟨-1, rfl, HB.out, .inl ⟨rfl, HP.out⟩⟩

set_option maxRecDepth 100000 in
set_option maxHeartbeats 1600000 in
theorem deleteUse_any (X k : Nat) (v : Value) (L : List (Nat × Int)) (w : World) (hlen : L.length ≤ 1500000000) (hx : w.cell? ⟨X, 0, none⟩ = some (.int .i64 (k : Nat))) (hX : v.ownBlock ≠ some X)
    (ho : w.ownsRow 0 123 2 v L.length (ucells L)) :
    Calls Try.prog 95 #[v, .func (.func 94) #[] #[.pointer (some ⟨X, 0, none⟩)]] w fun e w' => ∃ v', e = .returned v' ∧ v'.ownBlock = v.ownBlock ∧ w'.ownsRow 0 123 2 v' (kp k L).length (ucells (kp k L)) ∧ w.grownBy w' v.ownBlock := by
  obtain ⟨Au, cap, rfl⟩ := row_slice ho
  obtain ⟨n, hn⟩ : ∃ n, L.length = n := ⟨_, rfl⟩
  have HO := Lib.hid ho
  rw [hn] at ho hlen ⊢
  have HN := Lib.hid hn
  clear hn
  have hr : 0 < n → ∃ g, Au = some ⟨g, 0, none⟩ ∧ ∀ t, t < n → w.cell? ⟨g, t * 2, none⟩ = some (.int .i64 ((ug L t).1 : Nat)) ∧ w.cell? ⟨g, t * 2 + 1, none⟩ = some (.int .i64 (ug L t).2) := fun h0 => by
    rcases ho.2 with ⟨_, h⟩ | ⟨g, cap', cur, e, _⟩
    · omega
    · cases e
      obtain ⟨hu, _, _⟩ := row_urow ho HN.out.symm
      exact ⟨g, rfl, fun t ht => hu.at_ (Nat.zero_le _) (by have := HN.out; omega)⟩
  have HR := Lib.hid hr
  have HX := Lib.hid hX
  clear hr ho hX
  go_enter Try.func95, Try.ntmps95
  go_wp2_with fail
  refine (indexUse_any X k Au n cap L w (by omega) hx HR.out).mono ?_
  rintro e w1 ⟨m, rfl, hb, hcase⟩
  rcases hcase with ⟨rfl, hall⟩ | ⟨i, rfl, hin, hik, hbefore⟩
  · have HB := Lib.hid hb
    have HK := Lib.hid (show kp k L = L from kp_all fun r hr => by
      obtain ⟨t, ht, e⟩ := List.mem_iff_getElem.1 hr
      have := hall t (by have := HN.out; omega)
      rw [ug_at ht] at this
      rw [← e]; exact this)
    clear hb hall
    go_wp2
    go_ret
    rw [HK.out]
    have ho := HO.out
    have hn := HN.out
    rw [hn] at ho ⊢
    exact ⟨_, rfl, rfl, row_below' ho HB.out, ⟨HB.out.os, HB.out.tape, HB.out.output, HB.out.size, fun j hj _ => HB.out.block j hj⟩⟩
  · obtain ⟨g, rfl, _⟩ := HR.out (by omega)
    have ho := HO.out
    rw [HN.out] at ho
    obtain ⟨hu, hnc, hcm⟩ := row_urow ho HN.out.symm
    have hg1 : w.grownBy w1 (some g) := ⟨hb.os, hb.tape, hb.output, hb.size, fun j hj _ => hb.block j hj⟩
    have htk : kp k (L.take (i + 1)) = L.take i := by
      rw [kp_no (by have := HN.out; omega) hik]
      refine kp_all fun r hr => ?_
      obtain ⟨t, ht, e⟩ := List.mem_iff_getElem.1 hr
      rw [List.length_take] at ht
      have := hbefore t (by omega)
      rw [ug_at (by omega)] at this
      rw [← e, List.getElem_take]
      exact this
    have hlt : (L.take i).length = i := by rw [List.length_take]; have := HN.out; omega
    have hu1 : URow w1 g cap L (L.take i) i (i + 1) := by
      obtain ⟨cur, c1, c2, c3, c4⟩ := hu.bel hb
      refine ⟨cur, c1, c2, fun t ht => ?_, fun t h1 h2 => c4 t (Nat.zero_le _) h2⟩
      have e : ug (L.take i) t = ug L t := by
        rw [ug_at (by omega), ug_at (by have := HN.out; omega), List.getElem_take]
      rw [e]
      exact c3 t (by have := HN.out; omega)
    have HU := Lib.hid (show URow w1 g cap L (kp k (L.take (i + 1))) i (i + 1) from by rw [htk]; exact hu1)
    have HL := Lib.hid (show i = (kp k (L.take (i + 1))).length from by rw [htk, hlt])
    have HG := Lib.hid hg1
    have HXg := Lib.hid (show g ≠ X from fun e => HX.out (by rw [e]; rfl))
    have HW := Lib.hid (fun (W : World) (h : w.grownBy W (some g)) => (h.cell (a := ⟨X, 0, none⟩) hx (fun e => HXg.out (by cases e; rfl)) : W.cell? ⟨X, 0, none⟩ = some (.int .i64 (k : Nat))))
    clear ho hu hg1 htk hlt hu1 hb hbefore hik HR HX HO hx
    have him : ((i : Int) == -1) = false := by rw [beq_eq_false_iff_ne]; omega
    go_wp2
    go_loopw [5, 6] (fun si sj wr => ∃ a b : Nat, si = .int .i64 a ∧ sj = .int .i64 b ∧ a < b ∧ b ≤ n ∧ a = (kp k (L.take b)).length ∧ URow wr g cap L (kp k (L.take b)) a b ∧ w.grownBy wr (some g)) (fun _ sj _ => n - (intOf sj).toNat)
    case atStart => exact ⟨i, i + 1, rfl, by go_num, by omega, by omega, HL.out, HU.out, HG.out⟩
    case round =>
      obtain ⟨a, b, rfl, rfl, hab, hbn, hal, hur, hgr⟩ := hrel
      have HAl := Lib.hid hal
      have HUr := Lib.hid hur
      have HGr := Lib.hid hgr
      have hgl := hur.lt
      clear hal hur hgr HL HU HG
      by_cases hlt : b < n
      · obtain ⟨c0, c1⟩ := HUr.out.at_ (Nat.le_refl _) (by have := HN.out; omega)
        have hxr := HW.out _ HGr.out
        have hbI : (b : Int) < (n : Int) := by omega
        have hb0 : (0 : Int) ≤ (b : Int) := by omega
        obtain ⟨x, hx⟩ : ∃ x, (ug L b).1 = x := ⟨_, rfl⟩
        obtain ⟨y, hy⟩ : ∃ y, (ug L b).2 = y := ⟨_, rfl⟩
        have Hx := Lib.hid hx
        have Hy := Lib.hid hy
        rw [hx] at c0
        rw [hy] at c1
        clear hx hy
        go_wp2_with fail
        have hal := bl_alloc (Below.refl wr.heap.size wr) (.cells #[.int .i64 (x : Nat), .int .i64 y] 123)
        have b0 : (wr.alloc (.cells #[.int .i64 (x : Nat), .int .i64 y] 123)).cell? ⟨wr.heap.size, 0, none⟩ = some (.int .i64 (x : Nat)) := by go_simp
        have b1 : (wr.alloc (.cells #[.int .i64 (x : Nat), .int .i64 y] 123)).cell? ⟨wr.heap.size, 1, none⟩ = some (.int .i64 y) := by go_simp
        refine (forgotten_any X x k y _ (kc hal hxr)).mono ?_
        rintro e w5 ⟨rfl, hb5⟩
        have HB5 := Lib.hid (bl_trans hal hb5)
        replace b0 := kc hb5 b0
        replace b1 := kc hb5 b1
        have HU5 := Lib.hid (HUr.out.bel HB5.out)
        have HG5 := Lib.hid (grown_trans HGr.out (below_grown HB5.out))
        clear hal hb5 HUr HGr c0 c1 hxr
        by_cases hq : x = k
        · have HK := Lib.hid (kp_no (by have := HN.out; omega) (Hx.out.trans hq) : kp k (L.take (b + 1)) = kp k (L.take b))
          subst hq
          rw [show (x == x) = true from by simp]
          go_wp2
          go_roundw
          case rel => exact ⟨a, b + 1, rfl, by go_num, by omega, by omega, by rw [HK.out]; exact HAl.out, by rw [HK.out]; exact HU5.out.skip, HG5.out⟩
          case measure => simp [intOf]; omega
        · have HK := Lib.hid (kp_yes (by have := HN.out; omega) (by rw [Hx.out]; exact hq) : kp k (L.take (b + 1)) = kp k (L.take b) ++ [ug L b])
          rw [show (x == k) = false from by simpa using hq]
          have hab2 : a < cap := by omega
          obtain ⟨y1, hy1⟩ := HU5.out.some_ (o := a * 2) (by omega)
          obtain ⟨y2, hy2⟩ := HU5.out.some_ (o := a * 2 + 1) (by omega)
          have hf1 := HU5.out.frozen (a * 2)
          have hf2 := HU5.out.frozen (a * 2 + 1)
          have haI : (a : Int) < (n : Int) := by omega
          have ha0 : (0 : Int) ≤ (a : Int) := by omega
          have HMv := Lib.hid (show URow ((w5.setCell ⟨g, a * 2, none⟩ (.int .i64 (x : Nat))).setCell ⟨g, a * 2 + 1, none⟩ (.int .i64 y)) g cap L (kp k (L.take (b + 1))) (a + 1) (b + 1) from by
            have := HU5.out.move (by omega) (by omega) HAl.out.symm (ug L b)
            rw [Hx.out, Hy.out] at this
            rw [HK.out]
            exact this)
          have HLn := Lib.hid (show a + 1 = (kp k (L.take (b + 1))).length from by rw [HK.out, List.length_append, ← HAl.out]; rfl)
          clear hq
          go_wp2
          go_roundw
          case rel => exact ⟨a + 1, b + 1, by go_num, by go_num, by omega, by omega, HLn.out, HMv.out, grown_trans HG5.out (grown_trans (grown_set _ _ _ _) (grown_set _ _ _ _))⟩
          case measure => simp [intOf]; omega
      · have e : b = n := by omega
        subst e
        have HK := Lib.hid (show kp k (L.take b) = kp k L from by rw [← HN.out, List.take_length])
        have hal := HAl.out
        have hur := HUr.out
        rw [HK.out] at hal hur
        have HUr2 := Lib.hid hur
        have HAl2 := Lib.hid hal
        have hcl : ∀ ty, ∃ vs : List Value, (Builtin.clear_ #[100] ty #[.slice (some ⟨g, a * 2, none⟩) (b - a) (cap - a)]).run Try.prog wr = .ok (.tuple #[]) (wr.setCells g (a * 2) vs) := fun ty =>
          run_clearU wr g (a * 2) (b - a) (cap - a) ty (by omega) (fun j hj => by
            obtain ⟨u, hu⟩ := hur.some_ (o := a * 2 + j) (by omega)
            rw [hu]; rfl) (fun j _ => hur.frozen _)
        obtain ⟨vs, hcl1⟩ := hcl 0
        clear hal hur HAl HUr HK
        have haI : (a : Int) ≤ (b : Int) := by omega
        have ha0 : (0 : Int) ≤ (a : Int) := by omega
        have HU9 := Lib.hid (URow.tail vs (a * 2) wr HUr2.out.end_ (Nat.le_refl _))
        have HG9 := Lib.hid (grown_trans HGr.out (grown_setCells g vs (a * 2) wr))
        go_wp2
        go_ret
        have hrow := HU9.out.row HAl2.out.symm (by omega) hcm
        refine ⟨_, rfl, rfl, ?_, HG9.out⟩
        rw [← HAl2.out]
        exact hrow
end Go.Proofs.Ytooknldfkcdneaa

namespace Go.Proofs.Ytooknldfkcdneaa
open Go.ChangeShapes Go.WideShapes Go.ChangeAt Go.RowKit Go.Shelf

/-- The constraint that always holds. -/
def noCon : Con := ⟨0, 0, fun _ => 0, fun _ => 0⟩
section
variable {w w' W W0 w1 : World} {lo : Nat → Prop} {B m s g : Nat} {lv : Value} {p : Nat → Con} {sl : Nat → Int} {us : Nat → List (Nat × Int)} {uv : Nat → Value}
/-- A row of uses that has been rewritten in its own block, and its store. -/
theorem Pg.delU {k : Nat} {v' : Value} {M : List (Nat × Int)} (h : Pg W lo B lv m s p sl us uv) (hb : Below W.heap.size W W0) (hk : k < 25) (hs : s ≤ 1400)
    (hown : w1.ownsRow 0 123 2 v' M.length (ucells M)) (hg : W0.grownBy w1 (uv k).ownBlock) (hv : v'.ownBlock = (uv k).ownBlock) :
    Pg (w1.setCell ⟨B, 1401 + k, none⟩ v') lo B lv m s p sl (fun j => if j = k then M else us j) (fun j => if j = k then v' else uv j) ∧ Keeps lo W (w1.setCell ⟨B, 1401 + k, none⟩ v') := by
  have h0 := h.below hb
  have hB0 := h0.cel.lt
  obtain ⟨xs, hx, hcr⟩ := h0.lst
  have hl1 : Keeps lo W0 w1 := grown_keeps hg h0.f0 fun b e => h0.f3 k hk b e
  have hl2 : Keeps lo W0 (w1.setCell ⟨B, 1401 + k, none⟩ v') := hl1.set_ h.f1 _ _
  have hset := grown_set w1 B (1401 + k) v'
  have hvB : ∀ b, v'.ownBlock = some b → b ≠ B := fun b e => (h0.d1 k hk b (hv ▸ e)).2
  refine ⟨⟨(h0.cel.same (hg.block B hB0 (fun e => (h0.d1 k hk B e.symm).2 rfl))).setU hk hs _, ⟨xs, (hx.kept hg (none_or fun b e e2 => (h0.d1 k hk b e2).1 e)).kept hset (none_or fun b e e2 => h0.d3 (by rw [e, ← e2])), hcr.keeps hl2⟩, fun j hj => ?_, fun j hj b e => ?_, fun j hj j' hj' hne b e => ?_, h.d3, fun k hk => by simpa [World.setCell] using Nat.lt_of_lt_of_le (h0.f0 k hk) hg.size, h.f1, h.f2, fun j hj b e => ?_⟩, (bl_keeps hb h.f0).trans hl2⟩
  · by_cases e : j = k
    · subst e
      simp only [if_true]
      exact hown.kept hset (none_or fun b e1 e2 => hvB b e1 (by cases e2; rfl))
    · simp only [if_neg e]
      exact ((h0.use j hj).kept hg (none_or fun b e1 e2 => h0.d2 j hj k hk e b e1 e2)).kept hset (none_or fun b e1 e2 => (h0.d1 j hj b e1).2 (by cases e2; rfl))
  · by_cases e2 : j = k
    · subst e2
      simp only [if_true] at e
      exact h0.d1 j hj b (hv ▸ e)
    · simp only [if_neg e2] at e
      exact h0.d1 j hj b e
  · have key : ∀ i, i < 25 → ∀ c, (if i = k then v' else uv i).ownBlock = some c → (uv i).ownBlock = some c := fun i hi c h => by
      by_cases e : i = k
      · subst e; simp only [if_true] at h; exact hv ▸ h
      · simp only [if_neg e] at h; exact h
    exact fun h2 => h0.d2 j hj j' hj' hne b (key j hj b e) (key j' hj' b h2)
  · by_cases e1 : j = k
    · subst e1
      simp only [if_true] at e
      exact h0.f3 j hj b (hv ▸ e)
    · simp only [if_neg e1] at e
      exact h0.f3 j hj b e
/-- A cell of the list's row. -/
theorem own_set {T : TypeId} {n cap o : Nat} {xs : List Value} (h : w.ownsRow 0 T 2 (.slice (some ⟨g, 0, none⟩) n cap) n xs) (u : Value) : (w.setCell ⟨g, o, none⟩ u).ownsRow 0 T 2 (.slice (some ⟨g, 0, none⟩) n cap) n (xs.set o u) := by
  refine ⟨by rw [List.length_set]; exact h.1, ?_⟩
  rcases h.2 with ⟨e, _⟩ | ⟨g', cap', cur, e, h0, hh, h1, h2, h3, h4⟩
  · cases e
  · cases e
    refine .inr ⟨g, cap, cur.setIfInBounds o u, rfl, h0, by simp [World.setCell, Array.getElem?_modify, hh], h1, h2, by simpa using h3, ?_⟩
    rw [Array.toList_setIfInBounds, List.take_set, h4]
theorem own_cell {T : TypeId} {n cap : Nat} {xs : List Value} (h : w.ownsRow 0 T 2 (.slice (some ⟨g, 0, none⟩) n cap) n xs) {o : Nat} (ho : o < n * 2) : w.cell? ⟨g, o, none⟩ = xs[o]? ∧ w.frozen? ⟨g, o, none⟩ = false ∧ g < w.heap.size := by
  have hlt := h.lt g rfl
  rcases h.2 with ⟨e, _⟩ | ⟨g', cap', cur, e, h0, hh, h1, h2, h3, h4⟩
  · cases e
  · cases e
    refine ⟨?_, by simp [World.frozen?, hh], hlt.2⟩
    rw [← h4, List.getElem?_take_of_lt ho, Array.getElem?_toList]
    exact cell_of_row w g o cur _ _ hh
/-- The constraint k of the list is replaced by the one that always holds. -/
theorem Pg.emp {k cap : Nat} (h : Pg w lo B (.slice (some ⟨g, 0, none⟩) m cap) m s p sl us uv) (hk : k < m) : Pg ((w.setCell ⟨g, k * 2, none⟩ (.slice none 0 0)).setCell ⟨g, k * 2 + 1, none⟩ (.int .i64 0)) lo B (.slice (some ⟨g, 0, none⟩) m cap) m s (fun i => if i = k then noCon else p i) sl us uv ∧ Keeps lo w ((w.setCell ⟨g, k * 2, none⟩ (.slice none 0 0)).setCell ⟨g, k * 2 + 1, none⟩ (.int .i64 0)) := by
  obtain ⟨xs, hx, hc⟩ := h.lst
  have hfg := h.f2 g rfl
  have hgB : g ≠ B := fun e => h.d3 (by rw [e]; rfl)
  have hK : Keeps lo w ((w.setCell ⟨g, k * 2, none⟩ (.slice none 0 0)).setCell ⟨g, k * 2 + 1, none⟩ (.int .i64 0)) := ((Keeps.refl lo w).set_ hfg _ _).set_ hfg _ _
  have hg := grown_trans (grown_set w g (k * 2) (.slice none 0 0)) (grown_set _ g (k * 2 + 1) (.int .i64 0))
  have hl := hx.1
  refine ⟨⟨h.cel.same (hg.block B h.cel.lt (fun e => by injection e with e; exact hgB e.symm)), ⟨_, own_set (own_set hx _) _, fun i hi => ?_⟩, fun j hj => (h.use j hj).kept hg (none_or fun b e e2 => (h.d1 j hj b e).1 e2), h.d1, h.d2, h.d3, fun j hj => by simpa [World.setCell] using h.f0 j hj, h.f1, h.f2, h.f3⟩, hK⟩
  by_cases e : i = k
  · subst e
    simp only [if_true]
    exact ⟨none, 0, by rw [List.getElem?_set_ne (by omega), List.getElem?_set_self (by omega)]; rfl, by rw [List.getElem?_set_self (by rw [List.length_set]; omega)]; rfl, fun hn => absurd hn (Nat.lt_irrefl 0)⟩
  · simp only [if_neg e]
    obtain ⟨Ai, ci, h1, h2, h3⟩ := hc i hi
    exact ⟨Ai, ci, by rw [List.getElem?_set_ne (by omega), List.getElem?_set_ne (by omega)]; exact h1, by rw [List.getElem?_set_ne (by omega), List.getElem?_set_ne (by omega)]; exact h2, h3.keeps hK⟩
theorem Pg.slk0 {k : Nat} (h : Pg w lo B lv m s p sl us uv) (hk : k < s) (hs : s ≤ 1400) (z : Int) : Pg (w.setCell ⟨B, 1 + k, none⟩ (.int .i64 z)) lo B lv m s p (fun i => if i = k then z else sl i) us uv ∧ Keeps lo w (w.setCell ⟨B, 1 + k, none⟩ (.int .i64 z)) := by
  refine ⟨h.setB ?_, (Keeps.refl lo w).set_ h.f1 _ _⟩
  obtain ⟨cs, hh, c1, c2, c3, c4, c5⟩ := h.cel
  refine ⟨cs.setIfInBounds (1 + k) (.int .i64 z), heap_put _ hh, by simpa using c1, ?_, fun i hi => ?_, fun j hj => ?_, fun i hi => ?_⟩
  · rw [Array.getElem?_setIfInBounds, if_neg (by omega)]; exact c2
  · rw [Array.getElem?_setIfInBounds]
    by_cases e : i = k
    · subst e
      rw [if_pos rfl, if_pos (by omega)]
      simp
    · rw [if_neg (by omega)]
      show _ = some (Value.int .i64 (if i = k then z else sl i))
      rw [if_neg e]
      exact c3 i hi
  · rw [Array.getElem?_setIfInBounds, if_neg (by omega)]; exact c4 j hj
  · rw [Array.getElem?_setIfInBounds]
    by_cases e : i = k
    · subst e
      exact ⟨.int .i64 z, by rw [if_pos rfl, if_pos (by omega)], rfl⟩
    · rw [if_neg (by omega)]
      exact c5 i hi
/-- What a propagator says depends on its own constraints alone. -/
theorem Pg.congr {p' : Nat → Con} {sl' : Nat → Int} {us' : Nat → List (Nat × Int)} (h : Pg w lo B lv m s p sl us uv) (hp : ∀ i, i < m → p i = p' i) (hs : ∀ i, i < s → sl i = sl' i) (hu : ∀ j, j < 25 → us j = us' j) : Pg w lo B lv m s p' sl' us' uv := by
  obtain ⟨xs, hx, hc⟩ := h.lst
  obtain ⟨cs, hh, c1, c2, c3, c4, c5⟩ := h.cel
  exact ⟨⟨cs, hh, c1, c2, fun i hi => by rw [← hs i hi]; exact c3 i hi, c4, c5⟩, ⟨xs, hx, fun i hi => by rw [← hp i hi]; exact hc i hi⟩, fun j hj => by rw [← hu j hj]; exact h.use j hj, h.d1, h.d2, h.d3, h.f0, h.f1, h.f2, h.f3⟩
theorem Pg.mono {lo' : Nat → Prop} (h : Pg w lo B lv m s p sl us uv) (hl : ∀ k, lo k → lo' k) (f0 : ∀ k, lo' k → k < w.heap.size) (f1 : ¬ lo' B) (f2 : ∀ b, lv.ownBlock = some b → ¬ lo' b) (f3 : ∀ j, j < 25 → ∀ b, (uv j).ownBlock = some b → ¬ lo' b) : Pg w lo' B lv m s p sl us uv := by
  obtain ⟨xs, hx, hc⟩ := h.lst
  exact ⟨h.cel, ⟨xs, hx, fun i hi => by
    obtain ⟨Ai, ci, a, b, c⟩ := hc i hi
    exact ⟨Ai, ci, a, b, c.mono hl⟩⟩, h.use, h.d1, h.d2, h.d3, f0, f1, f2, f3⟩
end
/-- Which rows the first t terms touch. -/
def tch (l : Nat → Int) (t j : Nat) : Bool := (List.range t).any fun i => 12 + l i == (j : Int)
theorem tch_succ (l : Nat → Int) (t j : Nat) : tch l (t + 1) j = (tch l t j || 12 + l t == (j : Int)) := by
  unfold tch
  rw [List.range_succ, List.any_append]
  simp
theorem tch_iff {l : Nat → Int} {t j : Nat} : tch l t j = true ↔ ∃ i, i < t ∧ 12 + l i = (j : Int) := by
  unfold tch
  rw [List.any_eq_true]
  constructor
  · rintro ⟨i, hi, h⟩
    exact ⟨i, List.mem_range.1 hi, by simpa using h⟩
  · rintro ⟨i, hi, h⟩
    exact ⟨i, List.mem_range.2 hi, by simpa using h⟩
end Go.Proofs.Ytooknldfkcdneaa

namespace Go.Proofs.Ytooknldfkcdneaa
open Go.ChangeShapes Go.WideShapes Go.ChangeAt Go.RowKit Go.Shelf

set_option maxRecDepth 100000 in
set_option maxHeartbeats 6400000 in
theorem forget_any (F : Nat → Prop) (B : Nat) (lv : Value) (m k : Nat) (p : Nat → Con) (sl : Nat → Int) (us : Nat → List (Nat × Int)) (uv : Nat → Value) (w : World)
    (hP : Pg w F B lv m m p sl us uv) (hk : k < m) (hm : m ≤ 1400) (hq : okC (p k)) (hn : (p k).n ≤ 1048576) (hus : ∀ j, (us j).length ≤ 1500000000) :
    Calls Try.prog 79 #[.pointer (some ⟨B, 0, none⟩), .int .i64 (k : Nat)] w fun e w' => e = .returned (.tuple #[]) ∧ ∃ uv', Pg w' F B lv m m (fun i => if i = k then noCon else p i) (fun i => if i = k then 0 else sl i) (fun j => if tch (p k).l (p k).n j then kp k (us j) else us j) uv' ∧ Keeps F w w' ∧ ∀ j, j < 25 → (uv' j).ownBlock = (uv j).ownBlock := by
  have hBl := hP.cel.lt
  obtain ⟨xs, hx, hxc⟩ := hP.lst
  have hlv : ∃ g capl, lv = .slice (some ⟨g, 0, none⟩) m capl ∧ g < w.heap.size := by
    have hlt := hx.lt
    rcases hx.2 with ⟨e, e2⟩ | ⟨g, capl, cur, e, _⟩
    · omega
    · exact ⟨g, capl, e, (hlt g (by rw [e]; rfl)).2⟩
  obtain ⟨g, capl, rfl, hgl⟩ := hlv
  obtain ⟨Ak, ck, x0, x1, hrk⟩ := hxc k hk
  obtain ⟨y0, _, _⟩ := own_cell hx (o := k * 2) (by omega)
  have z0 : w.cell? ⟨g, k * 2, none⟩ = some (.slice Ak (p k).n ck) := y0.trans x0
  have hcl := hP.cel.cellL
  have hb1 := bl_alloc (Below.refl w.heap.size w) (.cells #[.int .i64 (k : Nat)] 3)
  have HP := Lib.hid (hP.below hb1)
  have HK := Lib.hid (bl_keeps hb1 hP.f0)
  have HR := Lib.hid hrk
  have HQ := Lib.hid hq
  have HUs := Lib.hid hus
  have HOw := Lib.hid (fun j hj => show (uv j).ownBlock ≠ some w.heap.size from fun e => by have := ((hP.use j hj).lt _ e).2; omega)
  replace z0 := kc hb1 z0
  replace hcl := kc hb1 hcl
  have xk : (w.alloc (.cells #[.int .i64 (k : Nat)] 3)).cell? ⟨w.heap.size, 0, none⟩ = some (.int .i64 (k : Nat)) := by go_simp
  have hkI : (k : Int) < (m : Int) := by omega
  have hk0 : (0 : Int) ≤ (k : Int) := by omega
  have hsz : (w.alloc (.cells #[.int .i64 (k : Nat)] 3)).heap.size = w.heap.size + 1 := by simp
  clear hP hx hxc hq hus hrk x0 x1 y0 hb1
  go_enter Try.func79, Try.ntmps79
  go_upto_region 2 with fail
  generalize (w.alloc (.cells #[.int .i64 (k : Nat)] 3)) = W1 at *
  obtain ⟨X, hX⟩ : ∃ X, w.heap.size = X := ⟨_, rfl⟩
  rw [hX] at xk HOw ⊢
  go_quiet (fail)
  have hb2 := bl_drewN (Below.refl W1.heap.size W1) nq
  have HP2 := Lib.hid (HP.out.below hb2)
  have HK2 := Lib.hid (HK.out.trans (bl_keeps hb2 HP.out.f0))
  replace xk := kc hb2 xk
  clear hb2 HP HK z0 hcl hsz
  generalize W1.drewN nq = W2 at *
  have hwX : w.heap.size ≤ X := Nat.le_of_eq hX
  clear hX
  go_wp2
  go_loopw [18] (fun i wr => ∃ (t : Nat) (uv' : Nat → Value), i = .int .i64 t ∧ t ≤ (p k).n ∧ Pg wr F B (.slice (some ⟨g, 0, none⟩) m capl) m m p sl (fun j => if tch (p k).l t j then kp k (us j) else us j) uv' ∧ Keeps F w wr ∧ (∀ j, j < 25 → (uv' j).ownBlock = (uv j).ownBlock) ∧ wr.cell? ⟨X, 0, none⟩ = some (.int .i64 (k : Nat))) (fun i _ => (p k).n - (intOf i).toNat)
  case atStart => exact ⟨0, uv, rfl, Nat.zero_le _, by simpa [tch] using HP2.out, HK2.out, fun _ _ => rfl, xk⟩
  case round =>
    obtain ⟨t, uv', rfl, ht, hp, hkp, hown, hxr⟩ := hrel
    have HPr := Lib.hid hp
    have HKr := Lib.hid hkp
    have HOr := Lib.hid hown
    clear hp hkp hown
    by_cases hlt : t < (p k).n
    · obtain ⟨b, off, rfl, hbl, hc⟩ := ((HR.out.keeps HKr.out).rd HPr.out.f0) (by omega)
      obtain ⟨c0, c1⟩ := hc t hlt
      have hlit := litAt (show validB (p k).n (p k).c (p k).l (p k).bd = true from HQ.out) hlt
      obtain ⟨x, hx⟩ : ∃ x, (p k).c t = x := ⟨_, rfl⟩
      obtain ⟨z, hz⟩ : ∃ z, (p k).l t = z := ⟨_, rfl⟩
      rw [hx] at c0
      rw [hz] at c1 hlit
      obtain ⟨q0, q1, q2⟩ := litB_iff.1 hlit
      obtain ⟨a, ha⟩ : ∃ a : Nat, 12 + z = (a : Int) := ⟨(12 + z).toNat, by omega⟩
      have ha25 : a < 25 := by omega
      obtain ⟨u, hu⟩ : ∃ u, (if tch (p k).l t a then kp k (us a) else us a) = u := ⟨_, rfl⟩
      have HFn := Lib.hid (show (fun j => if tch (p k).l (t + 1) j then kp k (us j) else us j) = fun j => if j = a then kp k u else (if tch (p k).l t j then kp k (us j) else us j) from by
        funext j
        rw [tch_succ, hz, ha]
        by_cases e : j = a
        · subst e
          rw [if_pos rfl, ← hu]
          simp only [beq_self_eq_true, Bool.or_true, if_true]
          split
          · exact (kp_all fun r hr => by
              have := (List.mem_filter.1 hr).2
              simpa using this).symm
          · rfl
        · rw [if_neg e, show ((a : Int) == (j : Int)) = false from by rw [beq_eq_false_iff_ne]; omega, Bool.or_false])
      have hul : u.length ≤ 1500000000 := by
        rw [← hu]
        have := HUs.out a
        split
        · exact Nat.le_trans (List.length_filter_le _ _) this
        · exact this
      have HU := Lib.hid hu
      have hw1 : wrap64 (12 + z) = (a : Int) := by rw [ha]; exact IntWalk.i64_left _ ▸ IntWalk.i64_in _ (by omega)
      have hw2 : IntKind.i64.wrap (12 + z) = (a : Int) := by rw [ha]; exact IntWalk.i64_in _ (by omega)
      have hltI : (t : Int) < ((p k).n : Int) := by omega
      have ht0 : (0 : Int) ≤ (t : Int) := by omega
      have haI : (a : Int) < 25 := by omega
      have ha0 : (0 : Int) ≤ (a : Int) := by omega
      clear hc hx hz ha hlit q0 q1 q2 hu
      go_upto_region 6 with fail
      have hb3 := bl_alloc (Below.refl wr.heap.size wr) (.cells #[.int .i64 x, .int .i64 z] 58)
      have HP3 := Lib.hid (HPr.out.below hb3)
      have HK3 := Lib.hid (HKr.out.trans (bl_keeps hb3 HPr.out.f0))
      have hx3 := kc hb3 hxr
      clear hb3 HPr HKr hxr c0 c1
      generalize (wr.alloc (.cells #[.int .i64 x, .int .i64 z] 58)) = W3 at *
      have hrow : W3.ownsRow 0 123 2 (uv' a) u.length (ucells u) := by
        have := HP3.out.use a ha25
        simp only [HU.out] at this
        exact this
      have hcu := HP3.out.cel.cellU ha25
      have hdB : (uv' a).ownBlock ≠ some B := fun e => (HP3.out.d1 a ha25 B e).2 rfl
      have hXo : (uv' a).ownBlock ≠ some X := fun e => HOw.out a ha25 (by rw [← HOr.out a ha25]; exact e)
      have hXB : X ≠ B := by omega
      obtain ⟨Au, capu, hue⟩ := row_slice hrow
      rw [hue] at hcu
      have hr2 := hrow
      have hd2 := hdB
      have hx2 := hXo
      rw [hue] at hr2 hd2 hx2
      have HUe := Lib.hid hue
      have HRw := Lib.hid hr2
      have HDB := Lib.hid hd2
      have HXo := Lib.hid hx2
      clear hrow hdB hXo hue hr2 hd2 hx2
      obtain ⟨Lc, hLc⟩ : ∃ Lc, u.length = Lc := ⟨_, rfl⟩
      rw [hLc] at hcu hul
      have HLc := Lib.hid hLc
      have HRW := Lib.hid (show W3.ownsRow 0 123 2 (.slice Au Lc capu) u.length (ucells u) from by have := HRw.out; rw [HLc.out] at this ⊢; exact this)
      have HDb := Lib.hid (show (Value.slice Au Lc capu).ownBlock ≠ some B from by have := HDB.out; rw [HLc.out] at this; exact this)
      have HXb := Lib.hid (show (Value.slice Au Lc capu).ownBlock ≠ some X from by have := HXo.out; rw [HLc.out] at this; exact this)
      have HUv := Lib.hid (show uv' a = .slice Au Lc capu from by rw [HUe.out, HLc.out])
      clear hLc HUe HRw HDB HXo
      go_region_law (go_simp; go_at_call 95; refine (deleteUse_any X k _ u _ (Nat.le_trans (Nat.le_of_eq HLc.out) hul) (kc (Below.refl W3.heap.size W3).drew hx3) HXb.out (row_below' HRW.out (Below.refl W3.heap.size W3).drew)).mono ?_; rintro e w9 ⟨v9, rfl, hv, hrow9, hg9⟩; obtain ⟨A9, cap9, rfl⟩ := row_slice hrow9; obtain ⟨t0, t1⟩ := HP3.out.t0 (Below.refl W3.heap.size W3).drew hg9 HDb.out hcu)
      have HDel := Lib.hid (fun (A9 : Option Addr) (cap9 : Nat) (w9 : World) (h1 : w9.ownsRow 0 123 2 (.slice A9 (kp k u).length cap9) (kp k u).length (ucells (kp k u))) (h2 : W3.drew.grownBy w9 (Value.slice Au Lc capu).ownBlock) (h3 : (Value.slice A9 (kp k u).length cap9).ownBlock = (Value.slice Au Lc capu).ownBlock) => HP3.out.delU (Below.refl W3.heap.size W3).drew ha25 hm h1 (by rw [HUv.out]; exact h2) (by rw [HUv.out]; exact h3))
      have HXn := Lib.hid (fun (w9 : World) (v : Value) (h2 : W3.drew.grownBy w9 (Value.slice Au Lc capu).ownBlock) => ((World.cell?_setCell_other _ _ _ _ (fun e => by injection e with e1 e2 _; omega)).trans (h2.cell (a := ⟨X, 0, none⟩) (kc (Below.refl W3.heap.size W3).drew hx3) (fun e => HXb.out e.symm)) : (w9.setCell ⟨B, 1401 + a, none⟩ v).cell? ⟨X, 0, none⟩ = some (.int .i64 (k : Nat))))
      have HOn := Lib.hid (fun (A9 : Option Addr) (cap9 : Nat) (h3 : (Value.slice A9 (kp k u).length cap9).ownBlock = (Value.slice Au Lc capu).ownBlock) (j : Nat) (hj : j < 25) => (show (if j = a then (Value.slice A9 (kp k u).length cap9) else uv' j).ownBlock = (uv j).ownBlock from by
        by_cases e : j = a
        · rw [if_pos e, h3, e, ← HOr.out a ha25, HUv.out]
        · rw [if_neg e]; exact HOr.out j hj))
      go_wp2
      go_roundw
      case rel => exact ⟨t + 1, fun j => if j = a then .slice A9 (kp k u).length cap9 else uv' j, by go_num, by omega, by rw [HFn.out]; exact (HDel.out A9 cap9 w9 hrow9 hg9 hv).1, HK3.out.trans (HDel.out A9 cap9 w9 hrow9 hg9 hv).2, HOn.out A9 cap9 hv, HXn.out w9 _ hg9⟩
      case measure => simp [intOf]; omega
    · have e : t = (p k).n := by omega
      have HPe := Lib.hid (show Pg wr F B (.slice (some ⟨g, 0, none⟩) m capl) m m p sl (fun j => if tch (p k).l (p k).n j then kp k (us j) else us j) uv' from by rw [← e]; exact HPr.out)
      clear HPr e
      obtain ⟨ys, hy, _⟩ := HPe.out.lst
      obtain ⟨a1, a2, a3⟩ := own_cell hy (o := k * 2) (by omega)
      obtain ⟨b1, b2, _⟩ := own_cell hy (o := k * 2 + 1) (by omega)
      have hyl := hy.1
      obtain ⟨u1, d1⟩ : ∃ u, wr.cell? ⟨g, k * 2, none⟩ = some u := ⟨_, a1.trans (List.getElem?_eq_getElem (by omega))⟩
      obtain ⟨u2, d2⟩ : ∃ u, wr.cell? ⟨g, k * 2 + 1, none⟩ = some u := ⟨_, b1.trans (List.getElem?_eq_getElem (by omega))⟩
      have hcl := HPe.out.cel.cellL
      have HEm := Lib.hid (HPe.out.emp hk)
      have hgX : g ≠ X := by omega
      have hgB : g ≠ B := fun e => HPe.out.d3 (by rw [e]; rfl)
      have HXe := Lib.hid (show ((wr.setCell ⟨g, k * 2, none⟩ (.slice none 0 0)).setCell ⟨g, k * 2 + 1, none⟩ (.int .i64 0)).cell? ⟨X, 0, none⟩ = some (.int .i64 (k : Nat)) from (World.cell?_setCell_other _ _ _ _ (fun e => by injection e with e1 e2 _; omega)).trans ((World.cell?_setCell_other _ _ _ _ (fun e => by injection e with e1 e2 _; omega)).trans hxr))
      clear hy hyl a1 b1
      go_wp2_with fail
      go_still_tail 7, (by kernel_rfl)
      change wpList _ _ _ _ _ wr.drew
      go_wp2_with fail
      obtain ⟨W5, hW5⟩ : ∃ W5, ((wr.setCell ⟨g, k * 2, none⟩ (.slice none 0 0)).setCell ⟨g, k * 2 + 1, none⟩ (.int .i64 0)).drew = W5 := ⟨_, rfl⟩
      have hbd := (Below.refl ((wr.setCell ⟨g, k * 2, none⟩ (.slice none 0 0)).setCell ⟨g, k * 2 + 1, none⟩ (.int .i64 0)).heap.size ((wr.setCell ⟨g, k * 2, none⟩ (.slice none 0 0)).setCell ⟨g, k * 2 + 1, none⟩ (.int .i64 0))).drew
      have hP5 := HEm.out.1.below hbd
      have hK5 := (HKr.out.trans HEm.out.2).trans (bl_keeps hbd HEm.out.1.f0)
      have hx5 := kc hbd HXe.out
      rw [hW5] at hP5 hK5 hx5 ⊢
      clear hW5 hbd HEm HXe HKr HPe hcl d1 d2 a2 b2 a3 hxr
      have HP5 := Lib.hid hP5
      have HK5 := Lib.hid hK5
      clear hP5 hK5
      obtain ⟨v0, hv0⟩ := HP5.out.cel.cellA (i := 1 + k) (by omega)
      have hf0 := HP5.out.cel.frozen (1 + k)
      have hkI4 : (k : Int) < 1400 := by omega
      obtain ⟨h1, h2⟩ := HP5.out.slk0 hk hm 0
      have H1 := Lib.hid h1
      have H2 := Lib.hid (HK5.out.trans h2)
      clear h1 h2 HK5
      go_wp2_with fail
      go_still_tail 5, (by kernel_rfl)
      change wpList _ _ _ _ _ W5.drew
      go_wp2
      have hbe := (Below.refl (W5.setCell ⟨B, 1 + k, none⟩ (.int .i64 0)).heap.size (W5.setCell ⟨B, 1 + k, none⟩ (.int .i64 0))).drew
      exact ⟨rfl, .tuple #[], by simp [results, Try.results79], rfl, uv', H1.out.below hbe, H2.out.trans (bl_keeps hbe H1.out.f0), HOr.out⟩
end Go.Proofs.Ytooknldfkcdneaa

namespace Go.Proofs.Ytooknldfkcdneaa
open Go.ChangeShapes Go.WideShapes Go.ChangeAt Go.RowKit Go.Shelf

/-- The negation of a constraint; a list with one constraint more. -/
def negC (n : Nat) (c l : Nat → Int) (bd : Int) : Con := ⟨n, negBd n c l bd, c, negL l⟩
def snocP (p : Nat → Con) (m : Nat) (q : Con) (i : Nat) : Con := if i = m then q else p i
theorem snoc_at {p : Nat → Con} {m : Nat} {q : Con} {i : Nat} (h : i < m) : snocP p m q i = p i := if_neg (by omega)
theorem snoc_last {p : Nat → Con} {m : Nat} {q : Con} : snocP p m q m = q := if_pos rfl
theorem val12 {n : Nat} {c l : Nat → Int} {bd : Int} (h : validB n c l bd = true) : n ≤ 12 := by
  have hvt : vtB c l n = true := by
    unfold validB at h
    rw [Bool.and_eq_true] at h
    exact h.1
  have key : ∀ i, i < n → (i : Int) + 1 ≤ ab (l i) := by
    intro i
    induction i with
    | zero => intro hi; have := ab_pos (litAt h hi); omega
    | succ i ih =>
      intro hi
      have h1 := ih (by omega)
      have h2 : ab (l i) < ab (l (i + 1)) := (okAt_iff.1 (vtB_at hvt hi)).2.2.2
      omega
  rcases Nat.eq_zero_or_pos n with h0 | h0
  · omega
  · have h1 := key (n - 1) (by omega)
    have h2 := ab_pos (litAt h (show n - 1 < n by omega))
    omega
theorem negC_ok {n : Nat} {c l : Nat → Int} {bd : Int} (h : validB n c l bd = true) : okC (negC n c l bd) := by
  have h12 := val12 h
  exact neg_valid (n := n) (by omega) h
theorem usP_congr {p p' : Nat → Con} {m : Nat} (h : ∀ i, i < m → p i = p' i) : usP p m = usP p' m := by
  induction m with
  | zero => rfl
  | succ m ih =>
    funext j
    show usP p m j ++ usT m (p m).c (p m).l (p m).n j = usP p' m j ++ usT m (p' m).c (p' m).l (p' m).n j
    rw [ih fun i hi => h i (by omega), h m (by omega)]
theorem usT_off {k : Nat} {c l : Nat → Int} {n j : Nat} (h : tch l n j = false) : usT k c l n j = [] := by
  induction n with
  | zero => rfl
  | succ n ih =>
    rw [tch_succ, Bool.or_eq_false_iff] at h
    unfold usT
    rw [ih h.1, if_neg (by simpa using h.2)]
    rfl
theorem us_forget {p : Nat → Con} {m j : Nat} (hok : ∀ i, i < m → okC (p i)) {c l : Nat → Int} {n : Nat} : (if tch l n j then kp m (usP p m j ++ usT m c l n j) else usP p m j ++ usT m c l n j) = usP p m j := by
  cases ht : tch l n j with
  | false => rw [usT_off ht, List.append_nil]; rfl
  | true =>
    show kp m (usP p m j ++ usT m c l n j) = _
    rw [kp_append, kp_all fun r hr => by have := (usP_mem hok hr).1; omega, kp_none fun r hr => (usT_mem hr).1, List.append_nil]
section
variable {w : World} {lo : Nat → Prop} {B m s g : Nat} {p : Nat → Con} {sl : Nat → Int} {us : Nat → List (Nat × Int)} {uv : Nat → Value}
/-- The list is cut to its first n constraints. -/
theorem Pg.cut {n cap : Nat} (h : Pg w lo B (.slice (some ⟨g, 0, none⟩) m cap) m s p sl us uv) (hn : n ≤ m) (hs : n ≤ s) : Pg (w.setCell ⟨B, 0, none⟩ (.slice (some ⟨g, 0, none⟩) n cap)) lo B (.slice (some ⟨g, 0, none⟩) n cap) n n p sl us uv ∧ Keeps lo w (w.setCell ⟨B, 0, none⟩ (.slice (some ⟨g, 0, none⟩) n cap)) := by
  obtain ⟨xs, hx, hc⟩ := h.lst
  have hK : Keeps lo w (w.setCell ⟨B, 0, none⟩ (.slice (some ⟨g, 0, none⟩) n cap)) := (Keeps.refl lo w).set_ h.f1 _ _
  have hset := grown_set w B 0 (.slice (some ⟨g, 0, none⟩) n cap)
  have hgB : g ≠ B := fun e => h.d3 (by rw [e]; rfl)
  have hrow : w.ownsRow 0 42 2 (.slice (some ⟨g, 0, none⟩) n cap) n (xs.take (n * 2)) := by
    refine ⟨by rw [List.length_take, hx.1]; omega, ?_⟩
    rcases hx.2 with ⟨e, _⟩ | ⟨g', cap', cur, e, h0, hh, h1, h2, h3, h4⟩
    · cases e
    · cases e
      refine .inr ⟨g, cap, cur, rfl, h0, hh, by omega, h2, h3, ?_⟩
      rw [← h4, List.take_take, Nat.min_eq_left (by omega)]
  obtain ⟨cs, hh, c1, c2, c3, c4, c5⟩ := h.cel.setL (.slice (some ⟨g, 0, none⟩) n cap)
  exact ⟨⟨⟨cs, hh, c1, c2, fun i hi => c3 i (by omega), c4, c5⟩, ⟨_, hrow.kept hset (.inr (by show some g ≠ some B; simp [hgB])), fun i hi => by
    obtain ⟨Ai, ci, a, b, d⟩ := hc i (by omega)
    exact ⟨Ai, ci, by rw [List.getElem?_take_of_lt (by omega)]; exact a, by rw [List.getElem?_take_of_lt (by omega)]; exact b, d.keeps hK⟩⟩, fun j hj => (h.use j hj).kept hset (none_or fun b e e2 => (h.d1 j hj b e).2 (by cases e2; rfl)), fun j hj b e => ⟨(h.d1 j hj b e).1, (h.d1 j hj b e).2⟩, h.d2, h.d3, fun k hk => by simpa [World.setCell] using h.f0 k hk, h.f1, h.f2, h.f3⟩, hK⟩
end
end Go.Proofs.Ytooknldfkcdneaa

namespace Go.Proofs.Ytooknldfkcdneaa
open Go.ChangeShapes Go.WideShapes Go.ChangeAt Go.RowKit Go.Shelf

set_option maxRecDepth 100000 in
set_option maxHeartbeats 6400000 in
theorem follows_any (F : Nat → Prop) (B : Nat) (lv : Value) (m : Nat) (p : Nat → Con) (uv : Nat → Value) (A : Option Addr) (n cap : Nat) (bd : Int) (c l : Nat → Int) (w : World)
    (hP : Pg w F B lv m m p (fun i => slkC (p i) z0) (usP p m) uv) (hm : m < 1400) (hok : ∀ i, i < m → okC (p i) ∧ (p i).n ≤ 1048576) (hn : n ≤ 1048576) (hr : Rd w w.heap.size A n c l) :
    Calls Try.prog 45 #[.pointer (some ⟨B, 0, none⟩), .agg #[.slice A n cap, .int .i64 bd]] w fun e w' => ∃ b, e = .returned (.bool b) ∧ (validB n c l bd = false → b = false) ∧ (validB n c l bd = true → ∃ V r, Runs (snocP p m (negC n c l bd)) (m + 1) 0 z0 V r ∧ b = decide (0 ≤ r)) ∧ ∃ (F' : Nat → Prop) (lv' : Value) (uv' : Nat → Value), (∀ k, F k → F' k) ∧ Pg w' F' B lv' m m p (fun i => slkC (p i) z0) (usP p m) uv' ∧ Keeps F w w' := by
  have hb1 := bl_alloc (Below.refl w.heap.size w) (.cells #[.slice A n cap, .int .i64 bd] 42)
  have hBl := hP.cel.lt
  have HOl := Lib.hid (fun b (e : lv.ownBlock = some b) => show b < w.heap.size from by
    obtain ⟨xs, hx, _⟩ := hP.lst
    exact (hx.lt b e).2)
  have HOu := Lib.hid (fun j (hj : j < 25) b (e : (uv j).ownBlock = some b) => show b < w.heap.size from ((hP.use j hj).lt b e).2)
  have HF := Lib.hid hP.f0
  have HP1 := Lib.hid (hP.below hb1)
  have HK1 := Lib.hid (bl_keeps hb1 hP.f0)
  have HR1 := Lib.hid (hr.later hb1)
  have HOk := Lib.hid hok
  have a0 : (w.alloc (.cells #[.slice A n cap, .int .i64 bd] 42)).cell? ⟨w.heap.size, 0, none⟩ = some (.slice A n cap) := by go_simp
  have a1 : (w.alloc (.cells #[.slice A n cap, .int .i64 bd] 42)).cell? ⟨w.heap.size, 1, none⟩ = some (.int .i64 bd) := by go_simp
  have hsz : w.heap.size < (w.alloc (.cells #[.slice A n cap, .int .i64 bd] 42)).heap.size := by simp
  clear hP hr hb1 hok
  go_enter Try.func45, Try.ntmps45
  go_wp2_with fail
  generalize (w.alloc (.cells #[.slice A n cap, .int .i64 bd] 42)) = W1 at *
  refine (implNeg_any A n cap bd c l W1 hn HR1.out).mono ?_
  rintro e w2 ⟨An, capn, rfl, hfr, hb⟩
  have HP2 := Lib.hid (HP1.out.below hb)
  have HK2 := Lib.hid (HK1.out.trans (bl_keeps hb HP1.out.f0))
  have HFr := Lib.hid hfr
  have hz2 := hb.size
  clear hb hfr HP1 HK1 HR1 a0 a1
  cases hv : validB n c l bd with
  | false =>
    have HV := Lib.hid hv
    clear hv
    go_wp2
    go_ret
    refine ⟨false, rfl, fun _ => rfl, fun h => (by rw [HV.out] at h; cases h), F, lv, uv, fun _ h => h, ?_, ?_⟩
    · exact HP2.out.below (bl_alloc (Below.refl _ _) _)
    · exact HK2.out.trans (bl_keeps (bl_alloc (Below.refl _ _) _) HP2.out.f0)
  | true =>
    have HV := Lib.hid hv
    have e1 : negNum n c l bd = n := by unfold negNum; rw [hv]; rfl
    have e2 : negBnd n c l bd = negBd n c l bd := by unfold negBnd; rw [hv]; rfl
    rw [e1, e2]
    have HFn := Lib.hid (show Frs w2 W1.heap.size An n c (negL l) from by have := HFr.out; rw [e1] at this; exact this)
    clear hv e1 e2 HFr
    obtain ⟨Al, capl, hle⟩ : ∃ Al capl, lv = .slice Al m capl := by
      obtain ⟨xs, hx, _⟩ := HP2.out.lst
      exact row_slice hx
    subst hle
    have hcl := HP2.out.cel.cellL
    have hcl3 := kc (bl_alloc (Below.refl w2.heap.size w2) (.cells #[.slice An n capn, .int .i64 (negBd n c l bd)] 42)) hcl
    have HQ := Lib.hid (negC_ok HV.out)
    go_wp2_with fail
    have hb3 := bl_alloc (Below.refl w2.heap.size w2) (.cells #[.slice An n capn, .int .i64 (negBd n c l bd)] 42)
    have hn0 : ∀ k, (W1.heap.size ≤ k ∧ k < w2.heap.size) → ¬ k < w.heap.size := fun k h => by omega
    have HP3 := Lib.hid (show Pg (w2.alloc (.cells #[.slice An n capn, .int .i64 (negBd n c l bd)] 42)) (fun k => F k ∨ (W1.heap.size ≤ k ∧ k < w2.heap.size)) B (.slice Al m capl) m m (snocP p m (negC n c l bd)) (fun i => slkC (snocP p m (negC n c l bd) i) z0) (usP (snocP p m (negC n c l bd)) m) uv from by
      refine ((HP2.out.below hb3).mono (fun k h => .inl h) (fun k h => ?_) (fun h => ?_) (fun b e h => ?_) (fun j hj b e h => ?_)).congr (fun i hi => (snoc_at hi).symm) (fun i hi => by rw [snoc_at hi]) (fun j _ => by rw [usP_congr fun i hi => (snoc_at (q := negC n c l bd) hi).symm])
      · rcases h with h | h
        · exact (HP2.out.below hb3).f0 k h
        · exact Nat.lt_of_lt_of_le h.2 hb3.size
      · rcases h with h | h
        · exact HP2.out.f1 h
        · omega
      · rcases h with h | h
        · exact HP2.out.f2 b e h
        · exact hn0 b h (HOl.out b e)
      · rcases h with h | h
        · exact HP2.out.f3 j hj b e h
        · exact hn0 b h (HOu.out j hj b e))
    have HRn := Lib.hid (show RdF (w2.alloc (.cells #[.slice An n capn, .int .i64 (negBd n c l bd)] 42)) (fun k => F k ∨ (W1.heap.size ≤ k ∧ k < w2.heap.size)) An (snocP p m (negC n c l bd) m).n (snocP p m (negC n c l bd) m).c (snocP p m (negC n c l bd) m).l from by
      rw [snoc_last]
      intro h0
      rcases HFn.out with h | ⟨G, e, hG, ho⟩
      · exact absurd h0 (by show ¬ 0 < n; omega)
      · obtain ⟨b, off, e', hbl, hc⟩ := (ho.below hb3).rdAt h0
        cases e'
        exact ⟨G, 0, e, .inr ⟨hG, ho.lt⟩, hc⟩)
    have HK3 := Lib.hid (HK2.out.trans (bl_keeps hb3 HP2.out.f0))
    have hz3 := hb3.size
    clear hb3 hcl hcl3 HP2 HK2 HFn hn0
    generalize (w2.alloc (.cells #[.slice An n capn, .int .i64 (negBd n c l bd)] 42)) = W3 at *
    obtain ⟨P, hP⟩ : ∃ P, snocP p m (negC n c l bd) = P := ⟨_, rfl⟩
    obtain ⟨F', hF'⟩ : ∃ F' : Nat → Prop, (fun k => F k ∨ (W1.heap.size ≤ k ∧ k < w2.heap.size)) = F' := ⟨_, rfl⟩
    have HFF := Lib.hid (show ∀ k, F k → F' k from fun k h => hF' ▸ (Or.inl h : F k ∨ (W1.heap.size ≤ k ∧ k < w2.heap.size)))
    have HPm := Lib.hid (show P m = negC n c l bd from hP ▸ snoc_last)
    have HPi := Lib.hid (show ∀ i, i < m → P i = p i from fun i hi => hP ▸ snoc_at hi)
    have HPe := Lib.hid hP
    rw [hP, hF'] at HP3 HRn
    clear hP hF'
    have HOk' := Lib.hid (show ∀ i, i < m + 1 → okC (P i) ∧ (P i).n ≤ 1048576 from fun i hi => by
      by_cases e : i = m
      · subst e; rw [HPm.out]; exact ⟨HQ.out, hn⟩
      · rw [HPi.out i (by omega)]; exact HOk.out i (by omega))
    have hcall := pgAdd_any F' B (.slice Al m capl) m P _ (usP P m) uv An capn W3 HP3.out HRn.out (HOk'.out m (by omega)).1 (HOk'.out m (by omega)).2 hm (usP_len fun i hi => (HOk'.out i (by omega)).2)
    rw [HPm.out] at hcall
    refine hcall.mono ?_
    rintro e w4 ⟨rfl, lv4, uv4, hp4, hk4⟩
    clear hcall
    have HP4 := Lib.hid (show Pg w4 F' B lv4 (m + 1) (m + 1) P (fun i => slkC (P i) z0) (usP P (m + 1)) uv4 from hp4.congr (fun _ _ => rfl) (fun i _ => by
      by_cases e : i = m
      · subst e; simp [HPm.out]
      · simp [e]) (fun j _ => by rw [← HPm.out]; rfl))
    have HK4 := Lib.hid (HK3.out.trans (hk4.mono HFF.out))
    clear hp4 hk4 HK3 HP3 HRn
    go_wp2_with fail
    have hcall := pgProp_any B F' (m + 1) lv4 P uv4 z0 w4 (by omega) HOk'.out (fun i _ => by unfold z0; omega) (fun _ _ => rfl) HP4.out
    refine hcall.mono ?_
    rintro e w5 ⟨V, r, rfl, hrun, hrv, hb5⟩
    have HRun := Lib.hid hrun
    have HP5 := Lib.hid (HP4.out.below hb5)
    have HK5 := Lib.hid (HK4.out.trans ((bl_keeps hb5 HP4.out.f0).mono HFF.out))
    clear hcall hrun hb5 HP4 HK4 hrv
    unfold arrV cells12
    go_wp2_with fail
    have hb6 := bl_alloc (Below.refl w5.heap.size w5) (.cells (cells12 V) 64)
    have HP6 := Lib.hid (HP5.out.below hb6)
    have HK6 := Lib.hid (HK5.out.trans ((bl_keeps hb6 HP5.out.f0).mono HFF.out))
    clear hb6 HP5 HK5
    unfold cells12 at HP6 HK6
    generalize (w5.alloc (.cells #[.int .i64 (V 0), .int .i64 (V 1), .int .i64 (V 2), .int .i64 (V 3), .int .i64 (V 4), .int .i64 (V 5), .int .i64 (V 6), .int .i64 (V 7), .int .i64 (V 8), .int .i64 (V 9), .int .i64 (V 10), .int .i64 (V 11)] 64)) = W6 at *
    have hcall := forget_any F' B lv4 (m + 1) m P _ _ uv4 W6 HP6.out (by omega) (by omega) (HOk'.out m (by omega)).1 (HOk'.out m (by omega)).2 (fun j => by have := usP_len (fun i hi => (HOk'.out i hi).2) (m := m + 1) (p := P) j; omega)
    refine hcall.mono ?_
    rintro e w7 ⟨rfl, uv7, hp7, hk7, _⟩
    clear hcall
    have HP7 := Lib.hid (show Pg w7 F' B lv4 (m + 1) (m + 1) (fun i => if i = m then noCon else P i) (fun i => if i = m then 0 else slkC (P i) z0) (usP p m) uv7 from hp7.congr (fun _ _ => rfl) (fun _ _ => rfl) (fun j _ => by
      rw [← usP_congr HPi.out]
      exact us_forget (fun i hi => (HOk'.out i (by omega)).1)))
    have HK7 := Lib.hid (HK6.out.trans (hk7.mono HFF.out))
    clear hp7 hk7 HP6 HK6
    have hsl : ∃ g capl, lv4 = .slice (some ⟨g, 0, none⟩) (m + 1) capl ∧ m + 1 ≤ capl := by
      obtain ⟨xs, hx, _⟩ := HP7.out.lst
      rcases hx.2 with ⟨_, e2⟩ | ⟨g, capl, cur, e, _, _, h1, _⟩
      · omega
      · exact ⟨g, capl, e, h1⟩
    obtain ⟨g, capl, rfl, hcap⟩ := hsl
    have hcl := HP7.out.cel.cellL
    have hfl := HP7.out.cel.frozen 0
    have hmI : (m : Int) ≤ (capl : Int) := by omega
    have hm0 : (0 : Int) ≤ (m : Int) := by omega
    obtain ⟨h8, k8⟩ := HP7.out.cut (n := m) (by omega) (by omega)
    have HP8 := Lib.hid (h8.congr (p' := p) (sl' := fun i => slkC (p i) z0) (us' := usP p m) (fun i hi => by rw [if_neg (by omega), HPi.out i hi]) (fun i hi => by rw [if_neg (by omega), HPi.out i hi]) (fun _ _ => rfl))
    have HK8 := Lib.hid (HK7.out.trans (k8.mono HFF.out))
    clear h8 k8 HP7 HK7
    go_wp2
    go_ret
    refine ⟨decide (0 ≤ r), rfl, fun h => (by rw [HV.out] at h; cases h), fun _ => ⟨V, r, by rw [HPe.out]; exact HRun.out, rfl⟩, F', _, uv7, HFF.out, HP8.out, HK8.out⟩
end Go.Proofs.Ytooknldfkcdneaa

namespace Go.Proofs.Ytooknldfkcdneaa
open Go.ChangeShapes Go.WideShapes Go.ChangeAt Go.RowKit

def fl2 (f g : Nat → Value) : Nat → List Value
  | 0 => []
  | n + 1 => fl2 f g n ++ [f n, g n]
theorem fl2_len (f g : Nat → Value) (n : Nat) : (fl2 f g n).length = n * 2 := by
  induction n with
  | zero => rfl
  | succ n ih => show (fl2 f g n ++ [f n, g n]).length = _; rw [List.length_append, ih]; simp; omega
theorem fl2_at (f g : Nat → Value) {n i : Nat} (h : i < n) : (fl2 f g n)[i * 2]? = some (f i) ∧ (fl2 f g n)[i * 2 + 1]? = some (g i) := by
  induction n with
  | zero => omega
  | succ n ih =>
    show (fl2 f g n ++ [f n, g n])[i * 2]? = _ ∧ (fl2 f g n ++ [f n, g n])[i * 2 + 1]? = _
    have hl := fl2_len f g n
    by_cases e : i = n
    · subst e
      constructor
      · rw [List.getElem?_append_right (by omega), hl]; simp
      · rw [List.getElem?_append_right (by omega), hl]; simp
    · obtain ⟨a, b⟩ := ih (by omega)
      exact ⟨by rw [List.getElem?_append_left (by omega)]; exact a, by rw [List.getElem?_append_left (by omega)]; exact b⟩
theorem srcC_bel {w w' : World} {A : Option Addr} {m : Nat} {ys : List Value} (h : SrcC w A m ys) (hb : Below w.heap.size w w') : SrcC w' A m ys := ⟨h.1, h.2.1, fun a e j u hu => kc hb (h.2.2 a e j u hu)⟩
theorem rdp_src {w : World} {A : Option Addr} {m : Nat} {p : Nat → Con} (h : RdP w w.heap.size A m p) : ∃ ys, SrcC w A m ys ∧ PxP w m p ys := by
  rcases Nat.eq_zero_or_pos m with h0 | h0
  · subst h0
    exact ⟨[], ⟨rfl, fun u hu => (by cases hu), fun a e j u hu => (by rw [List.getElem?_nil] at hu; cases hu)⟩, fun i hi => (by omega)⟩
  · obtain ⟨b, off, rfl, hbl, hc⟩ := h h0
    have hall : ∀ i, ∃ x : Option Addr × Nat, i < m → w.cell? ⟨b, off + i * 2, none⟩ = some (.slice x.1 (p i).n x.2) ∧ w.cell? ⟨b, off + i * 2 + 1, none⟩ = some (.int .i64 (p i).bd) ∧ Rd w w.heap.size x.1 (p i).n (p i).c (p i).l := fun i => by
      by_cases hi : i < m
      · obtain ⟨Ai, ci, a, b, c⟩ := hc i hi
        exact ⟨(Ai, ci), fun _ => ⟨a, b, c⟩⟩
      · exact ⟨(none, 0), fun h => absurd h hi⟩
    obtain ⟨x, hx⟩ : ∃ x : Nat → Option Addr × Nat, ∀ i, i < m → w.cell? ⟨b, off + i * 2, none⟩ = some (.slice (x i).1 (p i).n (x i).2) ∧ w.cell? ⟨b, off + i * 2 + 1, none⟩ = some (.int .i64 (p i).bd) ∧ Rd w w.heap.size (x i).1 (p i).n (p i).c (p i).l := ⟨fun i => (hall i).choose, fun i => (hall i).choose_spec⟩
    have hlen := fl2_len (fun i => .slice (x i).1 (p i).n (x i).2) (fun i => .int .i64 (p i).bd) m
    have key : ∀ j u, (fl2 (fun i => .slice (x i).1 (p i).n (x i).2) (fun i => .int .i64 (p i).bd) m)[j]? = some u → w.cell? ⟨b, off + j, none⟩ = some u ∧ u.oneCell' = true := fun j u hu => by
      have hj : j < m * 2 := by
        rcases Nat.lt_or_ge j (m * 2) with h | h
        · exact h
        · rw [List.getElem?_eq_none (by omega)] at hu; cases hu
      obtain ⟨a1, a2⟩ := fl2_at (fun i => .slice (x i).1 (p i).n (x i).2) (fun i => .int .i64 (p i).bd) (show j / 2 < m by omega)
      obtain ⟨c1, c2, _⟩ := hx (j / 2) (by omega)
      rcases (show j = j / 2 * 2 ∨ j = j / 2 * 2 + 1 by omega) with e | e
      · rw [← e] at a1 c1
        rw [a1] at hu
        cases hu
        exact ⟨by rw [show off + j = off + j / 2 * 2 by omega]; rw [show off + j / 2 * 2 = off + j by omega]; simpa [← e] using (hx (j / 2) (by omega)).1, rfl⟩
      · rw [← e] at a2
        rw [a2] at hu
        cases hu
        exact ⟨by rw [show off + j = off + j / 2 * 2 + 1 by omega]; exact c2, rfl⟩
    refine ⟨_, ⟨hlen, fun u hu => ?_, fun a e j u hu => ?_⟩, fun i hi => ?_⟩
    · obtain ⟨j, hj⟩ := List.mem_iff_getElem?.1 hu
      exact (key j u hj).2
    · cases e
      rw [Addr.add_mid]
      exact (key j u hu).1
    · obtain ⟨a1, a2⟩ := fl2_at (fun i => .slice (x i).1 (p i).n (x i).2) (fun i => .int .i64 (p i).bd) hi
      exact ⟨_, _, a1, a2, (hx i hi).2.2⟩
theorem pxp_snoc {w : World} {m : Nat} {p : Nat → Con} {q : Con} {ys : List Value} {A : Option Addr} {cap : Nat} (h : PxP w m p ys) (hl : ys.length = m * 2) (hr : Rd w w.heap.size A q.n q.c q.l) : PxP w (m + 1) (snocP p m q) (ys ++ [.slice A q.n cap, .int .i64 q.bd]) := fun i hi => by
  by_cases e : i = m
  · subst e
    rw [snoc_last]
    exact ⟨A, cap, by rw [List.getElem?_append_right (by omega), hl]; simp, by rw [List.getElem?_append_right (by omega), hl]; simp, hr⟩
  · obtain ⟨A', c', a, b, d⟩ := h i (by omega)
    rw [snoc_at (by omega)]
    exact ⟨A', c', by rw [List.getElem?_append_left (by omega)]; exact a, by rw [List.getElem?_append_left (by omega)]; exact b, d⟩
end Go.Proofs.Ytooknldfkcdneaa

namespace Go.Proofs.Ytooknldfkcdneaa
open Go.ChangeShapes Go.WideShapes Go.ChangeAt Go.RowKit

/-- What reverse unit propagation of a valid constraint from a problem comes to. -/
def RupOf (p : Nat → Con) (m n : Nat) (bd : Int) (c l : Nat → Int) (b : Bool) : Prop := ∃ V r, Runs (snocP p m (negC n c l bd)) (m + 1) 0 z0 V r ∧ b = decide (0 ≤ r)
theorem RupOf.one {p : Nat → Con} {m n : Nat} {bd : Int} {c l : Nat → Int} {b b' : Bool} (h : RupOf p m n bd c l b) (h' : RupOf p m n bd c l b') : b = b' := by
  obtain ⟨V, r, h1, e1⟩ := h
  obtain ⟨V', r', h2, e2⟩ := h'
  obtain ⟨_, e⟩ := Runs.det h1 _ _ h2
  rw [e1, e2, e]
theorem run_make12 (W : World) : (Instr.makeSlice 23 (.int .i64 12) (.int .i64 12)).run Try.prog W = .ok (.slice (some ⟨W.heap.size, 0, none⟩) 12 12) (W.alloc (.cells (cells12 z0) 3)) := by
  obtain ⟨i0, hi, hz0, hz1, hz2⟩ := info_parts Try.infoInt
  have h := run_make (P := Try.prog) W 23 3 i0 _ Try.underlying23 hi hz0 .i64 .i64 12 12 (by omega) (by omega) (by rw [hz2]; omega) (by omega)
  rw [hz1] at h
  rw [show madeCells (Value.int .i64 0).cells (Int.toNat 12 * 1) = cells12 z0 from by kernel_rfl] at h
  exact h
theorem own12 {W : World} {g : Nat} {T : TypeId} (v : Nat → Int) (h : W.heap[g]? = some (.cells (cells12 v) T (0, 0))) : OwnV W g T 12 12 v := ⟨_, h, Nat.le_refl _, fun _ hi => cells12_at v hi⟩
theorem z0_rng : rng z0 := fun _ _ => by unfold z0; omega

set_option linter.unusedSimpArgs false in
set_option maxRecDepth 100000 in
set_option maxHeartbeats 6400000 in
theorem l3Rup_any (Ap : Option Addr) (m capp : Nat) (p : Nat → Con) (A : Option Addr) (n cap : Nat) (bd : Int) (c l : Nat → Int) (w : World) (hm : m ≤ 100000) (hcp : Ap = none → capp = 0) (hrp : RdP w w.heap.size Ap m p) (hok : ∀ i, i < m → okC (p i) ∧ (p i).n ≤ 1048576) (hn : n ≤ 1048576) (hr : Rd w w.heap.size A n c l) (hv : validB n c l bd = true) :
    Calls Try.prog 43 #[.slice Ap m capp, .agg #[.slice A n cap, .int .i64 bd]] w fun e w' => ∃ b, e = .returned (.bool b) ∧ RupOf p m n bd c l b ∧ Below w.heap.size w w' := by
  have hb1 := bl_alloc (Below.refl w.heap.size w) (.cells #[.slice A n cap, .int .i64 bd] 42)
  have HB1 := Lib.hid hb1
  have HR1 := Lib.hid (hr.later hb1)
  have HRp1 := Lib.hid (hrp.later hb1)
  have HOk := Lib.hid hok
  have hnil : Ap = none → m = 0 := fun e => by
    rcases Nat.eq_zero_or_pos m with h | h
    · exact h
    · obtain ⟨b, off, e', _⟩ := hrp h
      rw [e] at e'; cases e'
  have HNil := Lib.hid hnil
  have HCp := Lib.hid hcp
  have HV := Lib.hid hv
  have HQ := Lib.hid (negC_ok hv)
  have a0 : (w.alloc (.cells #[.slice A n cap, .int .i64 bd] 42)).cell? ⟨w.heap.size, 0, none⟩ = some (.slice A n cap) := by go_simp
  have a1 : (w.alloc (.cells #[.slice A n cap, .int .i64 bd] 42)).cell? ⟨w.heap.size, 1, none⟩ = some (.int .i64 bd) := by go_simp
  clear hb1 hr hrp hok hnil hcp
  go_enter Try.func43, Try.ntmps43
  go_wp2_with fail
  generalize (w.alloc (.cells #[.slice A n cap, .int .i64 bd] 42)) = W1 at *
  refine (specNeg_any A n cap bd c l W1 hn HR1.out).mono ?_
  rintro e w2 ⟨An, capn, rfl, hfr, hb⟩
  have e1 : negNum n c l bd = n := by unfold negNum; rw [hv]; rfl
  have e2 : negBnd n c l bd = negBd n c l bd := by unfold negBnd; rw [hv]; rfl
  rw [e1] at hfr
  rw [e1, e2, hv]
  have HB2 := Lib.hid (bl_trans HB1.out hb)
  have HRn := Lib.hid hfr.rdAt
  have HRp2 := Lib.hid (HRp1.out.later hb)
  clear hb hfr HB1 HR1 HRp1 a0 a1 hv e1 e2
  go_wp2_with fail
  have hb3 := bl_alloc (Below.refl w2.heap.size w2) (.cells #[.slice An n capn, .int .i64 (negBd n c l bd)] 42)
  have u0 : (w2.alloc (.cells #[.slice An n capn, .int .i64 (negBd n c l bd)] 42)).cell? ⟨w2.heap.size, 0, none⟩ = some (.slice An n capn) := by go_simp
  have u1 : (w2.alloc (.cells #[.slice An n capn, .int .i64 (negBd n c l bd)] 42)).cell? ⟨w2.heap.size, 1, none⟩ = some (.int .i64 (negBd n c l bd)) := by go_simp
  have HBW := Lib.hid (bl_trans HB2.out hb3)
  obtain ⟨ys, hys, hpx⟩ := rdp_src (HRp2.out.later hb3)
  have HSrc := Lib.hid hys
  have HPx := Lib.hid hpx
  have HRn3 := Lib.hid (HRn.out.later hb3)
  clear hb3 hys hpx HB2 HRn HRp2
  generalize (w2.alloc (.cells #[.slice An n capn, .int .i64 (negBd n c l bd)] 42)) = W5 at *
  obtain ⟨H, hHe⟩ : ∃ H, w2.heap.size = H := ⟨_, rfl⟩
  rw [hHe] at u0 u1 ⊢
  clear hHe
  obtain ⟨nb, hnb⟩ : ∃ nb, negBd n c l bd = nb := ⟨_, rfl⟩
  have HNb := Lib.hid hnb
  rw [hnb] at u1 ⊢
  clear hnb
  refine wp_region_held_drew (S := fun w' => w'.cell? ⟨H, 0, none⟩ = some (.slice An n capn) ∧ w'.cell? ⟨H, 1, none⟩ = some (.int .i64 nb)) (by kernel_rfl) ⟨by simpa using u0, by simpa using u1⟩ (fun hHeld => ?_)
  refine wpAnyH_take (i := 1) (v := .slice Ap m capp) rfl (by kernel_rfl) (by kernel_rfl) (by kernel_rfl) (fun _ _ _ h => h) (Or.inl ⟨by rfl, ?_⟩) (by assumption) ?_
  · intro w hSw; simp only [List.getElem_toArray, List.getElem_cons_zero, List.getElem_cons_succ]; go_simp
  try simp only [Act.put, List.getElem_toArray, List.getElem_cons_zero, List.getElem_cons_succ, List.setIfInBounds_toArray, List.set_cons_zero, List.set_cons_succ]
  refine wpAnyH_take (i := 3) (v := .agg #[.slice An n capn, .int .i64 nb]) rfl (by kernel_rfl) (by kernel_rfl) (by kernel_rfl) (fun _ _ _ h => h) (Or.inl ⟨by rfl, ?_⟩) (by assumption) ?_
  · intro w hSw; obtain ⟨s0, s1⟩ := hSw; simp only [List.getElem_toArray, List.getElem_cons_zero, List.getElem_cons_succ]; go_simp
  try simp only [Act.put, List.getElem_toArray, List.getElem_cons_zero, List.getElem_cons_succ, List.setIfInBounds_toArray, List.set_cons_zero, List.set_cons_succ]
  clear hHeld
  refine wpAnyH_ready (rs := [0, 4]) (by kernel_rfl) (by simp) ?_
  refine AllReadyH.cons rfl (fun K hK => ?_) ?_
  · simp only [List.getElem_toArray, List.getElem_cons_zero, List.getElem_cons_succ]
    go_simp
    have nb27 : Below W5.heap.size W5 (World.alloc W5 (.cells #[] 42)).drew := (bl_alloc (Below.refl _ _) _).drew
    have hn27 : (World.alloc W5 (.cells #[] 42)).drew.heap[W5.heap.size]? = some _ := heap_alloc_new W5 (.cells #[] 42)
    have ro27 : (World.alloc W5 (.cells #[] 42)).drew.ownsRow W5.heap.size 42 2 (.slice (some ⟨W5.heap.size, 0, none⟩) 0 0) 0 [] := (px_lit W5 0 0).own.drew
    obtain ⟨X1, hX1⟩ : ∃ X1, (World.alloc W5 (.cells #[] 42)).drew = X1 := ⟨_, rfl⟩
    rw [hX1] at nb27 hn27 ro27 ⊢
    clear hX1
    obtain ⟨Z27, hZ27⟩ : ∃ Z, W5.heap.size = Z := ⟨_, rfl⟩
    have b27 := Lib.hid nb27
    have e27 := Lib.hid ro27
    rw [hZ27] at e27 ⊢
    have hW527 : W5.heap.size ≤ Z27 := by rw [← hZ27]; exact Nat.le_refl _
    clear nb27 hn27 hZ27 ro27
    refine hK.out _ _ ⟨kc b27.out u0, kc b27.out u1⟩ (fun hHeld => ?_)
    clear hK K
    try simp only [Act.put, List.getElem_toArray, List.getElem_cons_zero, List.getElem_cons_succ, List.setIfInBounds_toArray, List.set_cons_zero, List.set_cons_succ]
    clear hHeld
    refine wpAnyH_ready (rs := [2, 4]) (by kernel_rfl) (by simp) ?_
    refine AllReadyH.cons rfl (fun K hK => ?_) ?_
    · simp only [List.getElem_toArray, List.getElem_cons_zero, List.getElem_cons_succ]
      rw [if_pos (by rfl)]
      refine wp_appC _ _ (by rfl) (by rfl) (by rfl) (by rfl) e27.out (srcC_bel HSrc.out b27.out) HNil.out HCp.out (Nat.le_of_lt (e27.out.lt _ rfl).2) (by omega) ?_
      intro v6 w6 hown6 hg6
      have b47 := Lib.hid (b27.out.grown hg6 b27.out.size (by intro j e; cases e; exact hW527))
      have a47 := Lib.hid hown6
      have zl47 := Nat.le_trans (Nat.le_of_lt (e27.out.lt _ rfl).2) hg6.size
      clear hown6 hg6
      refine hK.out _ _ ⟨kc b47.out u0, kc b47.out u1⟩ (fun hHeld => ?_)
      clear hK K
      try simp only [Act.put, List.getElem_toArray, List.getElem_cons_zero, List.getElem_cons_succ, List.setIfInBounds_toArray, List.set_cons_zero, List.set_cons_succ]
      clear hHeld
      refine wpAnyH_ready (rs := [4]) (by kernel_rfl) (by simp) ?_
      refine AllReadyH.cons rfl (fun K hK => ?_) ?_
      · simp only [List.getElem_toArray, List.getElem_cons_zero, List.getElem_cons_succ]
        go_simp
        have nb61 : Below w6.heap.size w6 (World.alloc w6 (.cells #[.slice An n capn, .int .i64 nb] 42)) := bl_alloc (Below.refl _ _) _
        have hn61 : (World.alloc w6 (.cells #[.slice An n capn, .int .i64 nb] 42)).heap[w6.heap.size]? = some _ := heap_alloc_new w6 (.cells #[.slice An n capn, .int .i64 nb] 42)
        obtain ⟨X2, hX2⟩ : ∃ X2, (World.alloc w6 (.cells #[.slice An n capn, .int .i64 nb] 42)) = X2 := ⟨_, rfl⟩
        rw [hX2] at nb61 hn61 ⊢
        clear hX2
        obtain ⟨Z61, hZ61⟩ : ∃ Z, w6.heap.size = Z := ⟨_, rfl⟩
        have b61 := Lib.hid (bl_trans b47.out nb61)
        have a61 := Lib.hid (row_below' a47.out nb61)
        have zl61 := Nat.le_trans zl47 nb61.size
        have u61 := Lib.hid hn61
        rw [hZ61] at u61 ⊢
        have hW561 : W5.heap.size ≤ Z61 := by rw [← hZ61]; exact b47.out.size
        clear nb61 hn61 hZ61
        refine hK.out _ _ ⟨kc b61.out u0, kc b61.out u1⟩ (fun hHeld => ?_)
        clear hK K
        try simp only [Act.put, List.getElem_toArray, List.getElem_cons_zero, List.getElem_cons_succ, List.setIfInBounds_toArray, List.set_cons_zero, List.set_cons_succ]
        clear hHeld
        refine wpAnyH_ready (rs := [5]) (by kernel_rfl) (by simp) ?_
        refine AllReadyH.cons rfl (fun K hK => ?_) ?_
        · simp only [List.getElem_toArray, List.getElem_cons_zero, List.getElem_cons_succ]
          rw [if_pos (by rfl)]
          refine wp_appC _ _ (by rfl) (by rfl) (by rfl) (by rfl) a61.out (srcC_one u61.out rfl rfl) (by simp) (by simp) zl61 (by omega) ?_
          intro v7 w7 hown7 hg7
          have b82 := Lib.hid (b61.out.grown hg7 b61.out.size (fun j e => Nat.le_trans hW527 (a61.out.lt j e).1))
          have a82 := Lib.hid hown7
          clear hown7 hg7
          have w7u0 := kc b82.out u0
          have w7u1 := kc b82.out u1
          refine hK.out _ _ ⟨w7u0, w7u1⟩ (fun hHeld => ?_)
          clear hK K
          try simp only [Act.put, List.getElem_toArray, List.getElem_cons_zero, List.getElem_cons_succ, List.setIfInBounds_toArray, List.set_cons_zero, List.set_cons_succ]
          have ho8 := a82.out
          rw [Nat.zero_add, List.nil_append] at ho8
          obtain ⟨A7, cap7, e7⟩ := row_shape ho8
          subst e7
          have HPs := Lib.hid (pxp_snoc (q := negC n c l bd) (cap := capn) (HPx.out.later b82.out) HSrc.out.1 (HRn3.out.later b82.out))
          have HR7 := Lib.hid (rdp_own ho8 (by have := HPs.out; unfold negC at this; rw [HNb.out] at this; exact this))
          clear ho8 a82 HPs
          refine wpAnyH_take (i := 6) (v := .slice A7 (m + 1) cap7) rfl (by kernel_rfl) (by kernel_rfl) (by kernel_rfl) (fun _ _ _ h => h) (Or.inl ⟨by rfl, ?_⟩) (by assumption) ?_
          · intro w hSw; simp only [List.getElem_toArray, List.getElem_cons_zero, List.getElem_cons_succ]; go_simp
          try simp only [Act.put, List.getElem_toArray, List.getElem_cons_zero, List.getElem_cons_succ, List.setIfInBounds_toArray, List.set_cons_zero, List.set_cons_succ]
          refine wpAnyH_done (by kernel_rfl) ?_ _
          have HB8 := Lib.hid (bl_trans HBW.out b82.out)
          clear w7u0 w7u1 u0 u1 HSrc HPx HRn3 b82 HBW
          have hR7 := HR7.out
          rw [← HNb.out] at hR7
          have hmk := run_make12
          have hbm := bl_alloc (Below.refl w7.heap.size w7) (.cells (cells12 z0) 3)
          have HOw := Lib.hid (own12 z0 (heap_alloc_new w7 (.cells (cells12 z0) 3)))
          have hRb := hR7.below hbm
          have HBm := Lib.hid hbm
          have HRb := Lib.hid hRb
          clear hR7 HR7 hbm hRb
          go_wp2_with fail
          refine (l3Propagate_any A7 (m + 1) cap7 w7.heap.size 12 (snocP p m (negC n c l bd)) z0 _ (by omega) HRb.out (fun i hi => by
            by_cases e : i = m
            · subst e; rw [snoc_last]; exact ⟨HQ.out, hn⟩
            · rw [snoc_at (by omega)]; exact HOk.out i (by omega)) HOw.out z0_rng).mono ?_
          rintro e w8 ⟨V, r, hrun, rfl, _, _, hb8⟩
          have HRun := Lib.hid hrun
          have HB9 := Lib.hid (bl_trans HB8.out (HBm.out.trans hb8))
          clear hrun hb8 HBm HOw HRb hmk
          go_wp2
          go_ret
          exact ⟨_, rfl, ⟨V, r, HRun.out, rfl⟩, HB9.out⟩
        exact AllReadyH.nil
      exact AllReadyH.nil
    refine AllReadyH.cons rfl (fun K hK => ?_) ?_
    · simp only [List.getElem_toArray, List.getElem_cons_zero, List.getElem_cons_succ]
      go_simp
      have nb131 : Below X1.heap.size X1 (World.alloc X1 (.cells #[.slice An n capn, .int .i64 nb] 42)) := bl_alloc (Below.refl _ _) _
      have hn131 : (World.alloc X1 (.cells #[.slice An n capn, .int .i64 nb] 42)).heap[X1.heap.size]? = some _ := heap_alloc_new X1 (.cells #[.slice An n capn, .int .i64 nb] 42)
      obtain ⟨X3, hX3⟩ : ∃ X3, (World.alloc X1 (.cells #[.slice An n capn, .int .i64 nb] 42)) = X3 := ⟨_, rfl⟩
      rw [hX3] at nb131 hn131 ⊢
      clear hX3
      obtain ⟨Z131, hZ131⟩ : ∃ Z, X1.heap.size = Z := ⟨_, rfl⟩
      have b131 := Lib.hid (bl_trans b27.out nb131)
      have hE131 : Z27 < X1.heap.size := (e27.out.lt _ rfl).2
      have e131 := Lib.hid (row_below' e27.out nb131)
      have u131 := Lib.hid hn131
      rw [hZ131] at u131 hE131 ⊢
      have hW5131 : W5.heap.size ≤ Z131 := by rw [← hZ131]; exact b27.out.size
      clear nb131 hn131 hZ131
      refine hK.out _ _ ⟨kc b131.out u0, kc b131.out u1⟩ (fun hHeld => ?_)
      clear hK K
      try simp only [Act.put, List.getElem_toArray, List.getElem_cons_zero, List.getElem_cons_succ, List.setIfInBounds_toArray, List.set_cons_zero, List.set_cons_succ]
      clear hHeld
      refine wpAnyH_ready (rs := [2]) (by kernel_rfl) (by simp) ?_
      refine AllReadyH.cons rfl (fun K hK => ?_) ?_
      · simp only [List.getElem_toArray, List.getElem_cons_zero, List.getElem_cons_succ]
        rw [if_pos (by rfl)]
        refine wp_appC _ _ (by rfl) (by rfl) (by rfl) (by rfl) e131.out (srcC_bel HSrc.out b131.out) HNil.out HCp.out (Nat.le_of_lt (e131.out.lt _ rfl).2) (by omega) ?_
        intro v6 w6 hown6 hg6
        have b152 := Lib.hid (b131.out.grown hg6 b131.out.size (by intro j e; cases e; exact hW527))
        have a152 := Lib.hid hown6
        have zl152 := Nat.le_trans (Nat.le_of_lt (e131.out.lt _ rfl).2) hg6.size
        have u152 := Lib.hid (heap_grown hg6 (by show some _ ≠ some _; have := hE131; simp; omega) u131.out)
        clear hown6 hg6
        refine hK.out _ _ ⟨kc b152.out u0, kc b152.out u1⟩ (fun hHeld => ?_)
        clear hK K
        try simp only [Act.put, List.getElem_toArray, List.getElem_cons_zero, List.getElem_cons_succ, List.setIfInBounds_toArray, List.set_cons_zero, List.set_cons_succ]
        clear hHeld
        refine wpAnyH_ready (rs := [5]) (by kernel_rfl) (by simp) ?_
        refine AllReadyH.cons rfl (fun K hK => ?_) ?_
        · simp only [List.getElem_toArray, List.getElem_cons_zero, List.getElem_cons_succ]
          rw [if_pos (by rfl)]
          refine wp_appC _ _ (by rfl) (by rfl) (by rfl) (by rfl) a152.out (srcC_one u152.out rfl rfl) (by simp) (by simp) zl152 (by omega) ?_
          intro v7 w7 hown7 hg7
          have b167 := Lib.hid (b152.out.grown hg7 b152.out.size (fun j e => Nat.le_trans hW527 (a152.out.lt j e).1))
          have a167 := Lib.hid hown7
          clear hown7 hg7
          have w7u0 := kc b167.out u0
          have w7u1 := kc b167.out u1
          refine hK.out _ _ ⟨w7u0, w7u1⟩ (fun hHeld => ?_)
          clear hK K
          try simp only [Act.put, List.getElem_toArray, List.getElem_cons_zero, List.getElem_cons_succ, List.setIfInBounds_toArray, List.set_cons_zero, List.set_cons_succ]
          have ho8 := a167.out
          rw [Nat.zero_add, List.nil_append] at ho8
          obtain ⟨A7, cap7, e7⟩ := row_shape ho8
          subst e7
          have HPs := Lib.hid (pxp_snoc (q := negC n c l bd) (cap := capn) (HPx.out.later b167.out) HSrc.out.1 (HRn3.out.later b167.out))
          have HR7 := Lib.hid (rdp_own ho8 (by have := HPs.out; unfold negC at this; rw [HNb.out] at this; exact this))
          clear ho8 a167 HPs
          refine wpAnyH_take (i := 6) (v := .slice A7 (m + 1) cap7) rfl (by kernel_rfl) (by kernel_rfl) (by kernel_rfl) (fun _ _ _ h => h) (Or.inl ⟨by rfl, ?_⟩) (by assumption) ?_
          · intro w hSw; simp only [List.getElem_toArray, List.getElem_cons_zero, List.getElem_cons_succ]; go_simp
          try simp only [Act.put, List.getElem_toArray, List.getElem_cons_zero, List.getElem_cons_succ, List.setIfInBounds_toArray, List.set_cons_zero, List.set_cons_succ]
          refine wpAnyH_done (by kernel_rfl) ?_ _
          have HB8 := Lib.hid (bl_trans HBW.out b167.out)
          clear w7u0 w7u1 u0 u1 HSrc HPx HRn3 b167 HBW
          have hR7 := HR7.out
          rw [← HNb.out] at hR7
          have hmk := run_make12
          have hbm := bl_alloc (Below.refl w7.heap.size w7) (.cells (cells12 z0) 3)
          have HOw := Lib.hid (own12 z0 (heap_alloc_new w7 (.cells (cells12 z0) 3)))
          have hRb := hR7.below hbm
          have HBm := Lib.hid hbm
          have HRb := Lib.hid hRb
          clear hR7 HR7 hbm hRb
          go_wp2_with fail
          refine (l3Propagate_any A7 (m + 1) cap7 w7.heap.size 12 (snocP p m (negC n c l bd)) z0 _ (by omega) HRb.out (fun i hi => by
            by_cases e : i = m
            · subst e; rw [snoc_last]; exact ⟨HQ.out, hn⟩
            · rw [snoc_at (by omega)]; exact HOk.out i (by omega)) HOw.out z0_rng).mono ?_
          rintro e w8 ⟨V, r, hrun, rfl, _, _, hb8⟩
          have HRun := Lib.hid hrun
          have HB9 := Lib.hid (bl_trans HB8.out (HBm.out.trans hb8))
          clear hrun hb8 HBm HOw HRb hmk
          go_wp2
          go_ret
          exact ⟨_, rfl, ⟨V, r, HRun.out, rfl⟩, HB9.out⟩
        exact AllReadyH.nil
      exact AllReadyH.nil
    exact AllReadyH.nil
  refine AllReadyH.cons rfl (fun K hK => ?_) ?_
  · simp only [List.getElem_toArray, List.getElem_cons_zero, List.getElem_cons_succ]
    go_simp
    have nb217 : Below W5.heap.size W5 (World.alloc W5 (.cells #[.slice An n capn, .int .i64 nb] 42)).drew := (bl_alloc (Below.refl _ _) _).drew
    have hn217 : (World.alloc W5 (.cells #[.slice An n capn, .int .i64 nb] 42)).drew.heap[W5.heap.size]? = some _ := heap_alloc_new W5 (.cells #[.slice An n capn, .int .i64 nb] 42)
    obtain ⟨X4, hX4⟩ : ∃ X4, (World.alloc W5 (.cells #[.slice An n capn, .int .i64 nb] 42)).drew = X4 := ⟨_, rfl⟩
    rw [hX4] at nb217 hn217 ⊢
    clear hX4
    obtain ⟨Z217, hZ217⟩ : ∃ Z, W5.heap.size = Z := ⟨_, rfl⟩
    have b217 := Lib.hid nb217
    have u217 := Lib.hid hn217
    rw [hZ217] at u217 ⊢
    have hW5217 : W5.heap.size ≤ Z217 := by rw [← hZ217]; exact Nat.le_refl _
    clear nb217 hn217 hZ217
    refine hK.out _ _ ⟨kc b217.out u0, kc b217.out u1⟩ (fun hHeld => ?_)
    clear hK K
    try simp only [Act.put, List.getElem_toArray, List.getElem_cons_zero, List.getElem_cons_succ, List.setIfInBounds_toArray, List.set_cons_zero, List.set_cons_succ]
    clear hHeld
    refine wpAnyH_ready (rs := [0]) (by kernel_rfl) (by simp) ?_
    refine AllReadyH.cons rfl (fun K hK => ?_) ?_
    · simp only [List.getElem_toArray, List.getElem_cons_zero, List.getElem_cons_succ]
      go_simp
      have nb236 : Below X4.heap.size X4 (World.alloc X4 (.cells #[] 42)) := bl_alloc (Below.refl _ _) _
      have hn236 : (World.alloc X4 (.cells #[] 42)).heap[X4.heap.size]? = some _ := heap_alloc_new X4 (.cells #[] 42)
      have ro236 : (World.alloc X4 (.cells #[] 42)).ownsRow X4.heap.size 42 2 (.slice (some ⟨X4.heap.size, 0, none⟩) 0 0) 0 [] := (px_lit X4 0 0).own
      obtain ⟨X5, hX5⟩ : ∃ X5, (World.alloc X4 (.cells #[] 42)) = X5 := ⟨_, rfl⟩
      rw [hX5] at nb236 hn236 ro236 ⊢
      clear hX5
      obtain ⟨Z236, hZ236⟩ : ∃ Z, X4.heap.size = Z := ⟨_, rfl⟩
      have b236 := Lib.hid (bl_trans b217.out nb236)
      have hU236 : Z217 < X4.heap.size := (show _ from by have := u217.out; rcases Nat.lt_or_ge Z217 X4.heap.size with h | h; exact h; rw [Array.getElem?_eq_none h] at this; cases this)
      have u236 := Lib.hid (heap_keep nb236 u217.out)
      have e236 := Lib.hid ro236
      rw [hZ236] at e236 hU236 ⊢
      have hW5236 : W5.heap.size ≤ Z236 := by rw [← hZ236]; exact b217.out.size
      clear nb236 hn236 hZ236 ro236
      refine hK.out _ _ ⟨kc b236.out u0, kc b236.out u1⟩ (fun hHeld => ?_)
      clear hK K
      try simp only [Act.put, List.getElem_toArray, List.getElem_cons_zero, List.getElem_cons_succ, List.setIfInBounds_toArray, List.set_cons_zero, List.set_cons_succ]
      clear hHeld
      refine wpAnyH_ready (rs := [2]) (by kernel_rfl) (by simp) ?_
      refine AllReadyH.cons rfl (fun K hK => ?_) ?_
      · simp only [List.getElem_toArray, List.getElem_cons_zero, List.getElem_cons_succ]
        rw [if_pos (by rfl)]
        refine wp_appC _ _ (by rfl) (by rfl) (by rfl) (by rfl) e236.out (srcC_bel HSrc.out b236.out) HNil.out HCp.out (Nat.le_of_lt (e236.out.lt _ rfl).2) (by omega) ?_
        intro v6 w6 hown6 hg6
        have b258 := Lib.hid (b236.out.grown hg6 b236.out.size (by intro j e; cases e; exact hW5236))
        have a258 := Lib.hid hown6
        have zl258 := Nat.le_trans (Nat.le_of_lt (e236.out.lt _ rfl).2) hg6.size
        have u258 := Lib.hid (heap_grown hg6 (by show some _ ≠ some _; have := hU236; simp; omega) u236.out)
        clear hown6 hg6
        refine hK.out _ _ ⟨kc b258.out u0, kc b258.out u1⟩ (fun hHeld => ?_)
        clear hK K
        try simp only [Act.put, List.getElem_toArray, List.getElem_cons_zero, List.getElem_cons_succ, List.setIfInBounds_toArray, List.set_cons_zero, List.set_cons_succ]
        clear hHeld
        refine wpAnyH_ready (rs := [5]) (by kernel_rfl) (by simp) ?_
        refine AllReadyH.cons rfl (fun K hK => ?_) ?_
        · simp only [List.getElem_toArray, List.getElem_cons_zero, List.getElem_cons_succ]
          rw [if_pos (by rfl)]
          refine wp_appC _ _ (by rfl) (by rfl) (by rfl) (by rfl) a258.out (srcC_one u258.out rfl rfl) (by simp) (by simp) zl258 (by omega) ?_
          intro v7 w7 hown7 hg7
          have b273 := Lib.hid (b258.out.grown hg7 b258.out.size (fun j e => Nat.le_trans hW5236 (a258.out.lt j e).1))
          have a273 := Lib.hid hown7
          clear hown7 hg7
          have w7u0 := kc b273.out u0
          have w7u1 := kc b273.out u1
          refine hK.out _ _ ⟨w7u0, w7u1⟩ (fun hHeld => ?_)
          clear hK K
          try simp only [Act.put, List.getElem_toArray, List.getElem_cons_zero, List.getElem_cons_succ, List.setIfInBounds_toArray, List.set_cons_zero, List.set_cons_succ]
          have ho8 := a273.out
          rw [Nat.zero_add, List.nil_append] at ho8
          obtain ⟨A7, cap7, e7⟩ := row_shape ho8
          subst e7
          have HPs := Lib.hid (pxp_snoc (q := negC n c l bd) (cap := capn) (HPx.out.later b273.out) HSrc.out.1 (HRn3.out.later b273.out))
          have HR7 := Lib.hid (rdp_own ho8 (by have := HPs.out; unfold negC at this; rw [HNb.out] at this; exact this))
          clear ho8 a273 HPs
          refine wpAnyH_take (i := 6) (v := .slice A7 (m + 1) cap7) rfl (by kernel_rfl) (by kernel_rfl) (by kernel_rfl) (fun _ _ _ h => h) (Or.inl ⟨by rfl, ?_⟩) (by assumption) ?_
          · intro w hSw; simp only [List.getElem_toArray, List.getElem_cons_zero, List.getElem_cons_succ]; go_simp
          try simp only [Act.put, List.getElem_toArray, List.getElem_cons_zero, List.getElem_cons_succ, List.setIfInBounds_toArray, List.set_cons_zero, List.set_cons_succ]
          refine wpAnyH_done (by kernel_rfl) ?_ _
          have HB8 := Lib.hid (bl_trans HBW.out b273.out)
          clear w7u0 w7u1 u0 u1 HSrc HPx HRn3 b273 HBW
          have hR7 := HR7.out
          rw [← HNb.out] at hR7
          have hmk := run_make12
          have hbm := bl_alloc (Below.refl w7.heap.size w7) (.cells (cells12 z0) 3)
          have HOw := Lib.hid (own12 z0 (heap_alloc_new w7 (.cells (cells12 z0) 3)))
          have hRb := hR7.below hbm
          have HBm := Lib.hid hbm
          have HRb := Lib.hid hRb
          clear hR7 HR7 hbm hRb
          go_wp2_with fail
          refine (l3Propagate_any A7 (m + 1) cap7 w7.heap.size 12 (snocP p m (negC n c l bd)) z0 _ (by omega) HRb.out (fun i hi => by
            by_cases e : i = m
            · subst e; rw [snoc_last]; exact ⟨HQ.out, hn⟩
            · rw [snoc_at (by omega)]; exact HOk.out i (by omega)) HOw.out z0_rng).mono ?_
          rintro e w8 ⟨V, r, hrun, rfl, _, _, hb8⟩
          have HRun := Lib.hid hrun
          have HB9 := Lib.hid (bl_trans HB8.out (HBm.out.trans hb8))
          clear hrun hb8 HBm HOw HRb hmk
          go_wp2
          go_ret
          exact ⟨_, rfl, ⟨V, r, HRun.out, rfl⟩, HB9.out⟩
        exact AllReadyH.nil
      exact AllReadyH.nil
    exact AllReadyH.nil
  exact AllReadyH.nil
end Go.Proofs.Ytooknldfkcdneaa

namespace Go.Proofs.Ytooknldfkcdneaa
open Go.ChangeShapes Go.WideShapes Go.ChangeAt Go.RowKit

/-- What RupConstraint leaves. -/
def RRes (w : World) (m : Nat) (p : Nat → Con) (n : Nat) (bd : Int) (c l : Nat → Int) (e : Ending) (w' : World) : Prop :=
  ∃ b, e = .returned (.bool b) ∧ ((probB m p && validB n c l bd) = false → b = false) ∧ ((probB m p && validB n c l bd) = true → RupOf p m n bd c l b) ∧ Below w.heap.size w w'

set_option maxRecDepth 100000 in
set_option maxHeartbeats 3200000 in
theorem specRup_any (Ap : Option Addr) (m capp : Nat) (p : Nat → Con) (A : Option Addr) (n cap : Nat) (bd : Int) (c l : Nat → Int) (w : World) (hm : m ≤ 1048576) (hcp : Ap = none → capp = 0) (hrp : RdP w w.heap.size Ap m p) (hns : ∀ i, i < m → (p i).n ≤ 1048576) (hn : n ≤ 1048576) (hr : Rd w w.heap.size A n c l) :
    Calls Try.prog 22 #[.slice Ap m capp, .agg #[.slice A n cap, .int .i64 bd]] w (RRes w m p n bd c l) := by
  have hb1 := bl_alloc (Below.refl w.heap.size w) (.cells #[.slice A n cap, .int .i64 bd] 42)
  have HB1 := Lib.hid hb1
  have HR1 := Lib.hid (hr.later hb1)
  have HRp1 := Lib.hid (hrp.later hb1)
  have HNs := Lib.hid hns
  have HCp := Lib.hid hcp
  have a0 : (w.alloc (.cells #[.slice A n cap, .int .i64 bd] 42)).cell? ⟨w.heap.size, 0, none⟩ = some (.slice A n cap) := by go_simp
  have a1 : (w.alloc (.cells #[.slice A n cap, .int .i64 bd] 42)).cell? ⟨w.heap.size, 1, none⟩ = some (.int .i64 bd) := by go_simp
  clear hb1 hr hrp hns hcp
  go_enter Try.func22, Try.ntmps22
  go_wp2_with fail
  generalize (w.alloc (.cells #[.slice A n cap, .int .i64 bd] 42)) = W1 at *
  refine (specProblem_any _ _ _ p _ hm HNs.out HRp1.out).mono ?_
  rintro e w2 ⟨rfl, hb⟩
  have HB2 := Lib.hid (bl_trans HB1.out hb)
  have HR2 := Lib.hid (HR1.out.later hb)
  have HRp2 := Lib.hid (HRp1.out.later hb)
  replace a0 := kc hb a0
  replace a1 := kc hb a1
  clear hb HB1 HR1 HRp1
  cases hpb : probB m p with
  | false =>
    have HF := Lib.hid (show (probB m p && validB n c l bd) = false from by rw [hpb]; rfl)
    clear hpb
    go_wp2
    go_ret
    exact ⟨false, rfl, fun _ => rfl, fun h => (by rw [HF.out] at h; cases h), HB2.out⟩
  | true =>
    have HPb := Lib.hid hpb
    have h400 := (prob_ok hpb).1
    clear hpb
    go_wp2_with fail
    refine (specValid_any _ _ _ _ c l _ hn HR2.out).mono ?_
    rintro e w3 ⟨rfl, hb⟩
    have HB3 := Lib.hid (bl_trans HB2.out hb)
    have HR3 := Lib.hid (HR2.out.later hb)
    have HRp3 := Lib.hid (HRp2.out.later hb)
    replace a0 := kc hb a0
    replace a1 := kc hb a1
    clear hb HB2 HR2 HRp2
    cases hv : validB n c l bd with
    | false =>
      have HF := Lib.hid (show (probB m p && validB n c l bd) = false from by rw [hv]; simp)
      clear hv
      go_wp2
      go_ret
      exact ⟨false, rfl, fun _ => rfl, fun h => (by rw [HF.out] at h; cases h), HB3.out⟩
    | true =>
      have HV := Lib.hid hv
      have HT := Lib.hid (show (probB m p && validB n c l bd) = true from by rw [hv, HPb.out]; rfl)
      clear hv
      go_wp2_with fail
      refine (l3Rup_any Ap m capp p A n cap bd c l _ (by omega) HCp.out HRp3.out (fun i hi => ⟨(prob_ok HPb.out).2 i hi, HNs.out i hi⟩) hn HR3.out HV.out).mono ?_
      rintro e w4 ⟨b, rfl, hrup, hb⟩
      have HB4 := Lib.hid (bl_trans HB3.out hb)
      have HRup := Lib.hid hrup
      clear hb hrup
      go_wp2
      go_ret
      exact ⟨b, rfl, fun h => (by rw [HT.out] at h; cases h), fun _ => HRup.out, HB4.out⟩

theorem bl_keep2 {w w2 w3 w4 : World} (h2 : Below w.heap.size w w2) (h3 : Below w.heap.size w w3) (hk : Keeps (fun k => k < w2.heap.size) w3 w4) : Below w.heap.size w w4 :=
  ⟨hk.os.trans h3.os, hk.tape.trans h3.tape, hk.output.trans h3.output, Nat.le_trans h3.size hk.size, fun k hk' => (hk.block k (Nat.lt_of_lt_of_le hk' h2.size)).trans (h3.block k hk')⟩

set_option linter.unusedSimpArgs false in
set_option maxRecDepth 100000 in
set_option maxHeartbeats 3200000 in
theorem implRup_any (Ap : Option Addr) (m capp : Nat) (p : Nat → Con) (A : Option Addr) (n cap : Nat) (bd : Int) (c l : Nat → Int) (w : World) (hm : m ≤ 1048576) (hrp : RdP w w.heap.size Ap m p) (hns : ∀ i, i < m → (p i).n ≤ 1048576) (hn : n ≤ 1048576) (hr : Rd w w.heap.size A n c l) :
    Calls Try.prog 24 #[.slice Ap m capp, .agg #[.slice A n cap, .int .i64 bd]] w (RRes w m p n bd c l) := by
  have hb1 := bl_alloc (Below.refl w.heap.size w) (.cells #[.slice A n cap, .int .i64 bd] 42)
  have HB1 := Lib.hid hb1
  have HR1 := Lib.hid (hr.later hb1)
  have HRp1 := Lib.hid (hrp.later hb1)
  have HNs := Lib.hid hns
  have a0 : (w.alloc (.cells #[.slice A n cap, .int .i64 bd] 42)).cell? ⟨w.heap.size, 0, none⟩ = some (.slice A n cap) := by go_simp
  have a1 : (w.alloc (.cells #[.slice A n cap, .int .i64 bd] 42)).cell? ⟨w.heap.size, 1, none⟩ = some (.int .i64 bd) := by go_simp
  clear hb1 hr hrp hns
  go_enter Try.func24, Try.ntmps24
  go_wp2_with fail
  generalize (w.alloc (.cells #[.slice A n cap, .int .i64 bd] 42)) = W1 at *
  obtain ⟨H, hHe⟩ : ∃ H, w.heap.size = H := ⟨_, rfl⟩
  rw [hHe] at a0 a1 ⊢
  refine wp_region_held_drew (S := fun w' => w'.cell? ⟨H, 0, none⟩ = some (.slice A n cap) ∧ w'.cell? ⟨H, 1, none⟩ = some (.int .i64 bd)) (by kernel_rfl) ⟨by simpa using a0, by simpa using a1⟩ (fun hHeld => ?_)
  refine wpAnyH_take (i := 0) (v := .slice Ap m capp) rfl (by kernel_rfl) (by kernel_rfl) (by kernel_rfl) (fun _ _ _ h => h) (Or.inl ⟨by rfl, ?_⟩) (by assumption) ?_
  · intro w hSw; simp only [List.getElem_toArray, List.getElem_cons_zero, List.getElem_cons_succ]; go_simp
  try simp only [Act.put, List.getElem_toArray, List.getElem_cons_zero, List.getElem_cons_succ, List.setIfInBounds_toArray, List.set_cons_zero, List.set_cons_succ]
  refine wpAnyH_ready (rs := [1]) (by kernel_rfl) (by simp) ?_
  refine AllReadyH.cons rfl (fun K hK => ?_) AllReadyH.nil
  simp only [List.getElem_toArray, List.getElem_cons_zero, List.getElem_cons_succ]
  go_simp
  go_at_call 34
  refine (implProblem_any _ _ _ p _ hm HNs.out (HRp1.out.later (Below.refl W1.heap.size W1).drew)).mono ?_
  rintro e w2 ⟨rfl, hb⟩
  have hbd := bl_trans (Below.refl W1.heap.size W1).drew hb
  have HB2 := Lib.hid (bl_trans HB1.out hbd)
  have HR2 := Lib.hid (HR1.out.later hbd)
  have HRp2 := Lib.hid (HRp1.out.later hbd)
  replace a0 := kc hbd a0
  replace a1 := kc hbd a1
  refine hK.out _ _ ⟨a0, a1⟩ (fun hHeld => ?_)
  clear hK K
  try simp only [Act.put, List.getElem_toArray, List.getElem_cons_zero, List.getElem_cons_succ, List.setIfInBounds_toArray, List.set_cons_zero, List.set_cons_succ]
  have hHw : w.heap.size < w2.heap.size := by rw [hHe]; exact World.block_lt_of_cell? w2 _ a0
  clear hb hbd HB1 HR1 HRp1
  cases hpb : probB m p with
  | false =>
    have HF := Lib.hid (show (probB m p && validB n c l bd) = false from by rw [hpb]; rfl)
    clear hpb
    refine wpAnyH_take (i := 2) (v := .bool false) rfl (by kernel_rfl) (by kernel_rfl) (by kernel_rfl) (fun _ _ _ h => h) (Or.inl ⟨by rfl, ?_⟩) (by assumption) ?_
    · intro w hSw; simp only [List.getElem_toArray, List.getElem_cons_zero, List.getElem_cons_succ]; go_simp
    try simp only [Act.put, List.getElem_toArray, List.getElem_cons_zero, List.getElem_cons_succ, List.setIfInBounds_toArray, List.set_cons_zero, List.set_cons_succ]
    refine wpAnyH_take (i := 3) (v := undef) rfl (by kernel_rfl) (by kernel_rfl) (by kernel_rfl) (fun _ _ _ h => h) (Or.inr ⟨by rfl, rfl⟩) (by assumption) ?_
    try simp only [Act.put, List.getElem_toArray, List.getElem_cons_zero, List.getElem_cons_succ, List.setIfInBounds_toArray, List.set_cons_zero, List.set_cons_succ]
    refine wpAnyH_take (i := 4) (v := undef) rfl (by kernel_rfl) (by kernel_rfl) (by kernel_rfl) (fun _ _ _ h => h) (Or.inr ⟨by rfl, rfl⟩) (by assumption) ?_
    try simp only [Act.put, List.getElem_toArray, List.getElem_cons_zero, List.getElem_cons_succ, List.setIfInBounds_toArray, List.set_cons_zero, List.set_cons_succ]
    refine wpAnyH_take (i := 5) (v := undef) rfl (by kernel_rfl) (by kernel_rfl) (by kernel_rfl) (fun _ _ _ h => h) (Or.inr ⟨by rfl, rfl⟩) (by assumption) ?_
    try simp only [Act.put, List.getElem_toArray, List.getElem_cons_zero, List.getElem_cons_succ, List.setIfInBounds_toArray, List.set_cons_zero, List.set_cons_succ]
    refine wpAnyH_take (i := 6) (v := undef) rfl (by kernel_rfl) (by kernel_rfl) (by kernel_rfl) (fun _ _ _ h => h) (Or.inr ⟨by rfl, rfl⟩) (by assumption) ?_
    try simp only [Act.put, List.getElem_toArray, List.getElem_cons_zero, List.getElem_cons_succ, List.setIfInBounds_toArray, List.set_cons_zero, List.set_cons_succ]
    refine wpAnyH_take (i := 7) (v := .bool false) rfl (by kernel_rfl) (by kernel_rfl) (by kernel_rfl) (fun _ _ _ h => h) (Or.inl ⟨by rfl, ?_⟩) (by assumption) ?_
    · intro w hSw; simp only [List.getElem_toArray, List.getElem_cons_zero, List.getElem_cons_succ]; go_simp
    try simp only [Act.put, List.getElem_toArray, List.getElem_cons_zero, List.getElem_cons_succ, List.setIfInBounds_toArray, List.set_cons_zero, List.set_cons_succ]
    refine wpAnyH_take (i := 8) (v := .bool false) rfl (by kernel_rfl) (by kernel_rfl) (by kernel_rfl) (fun _ _ _ h => h) (Or.inl ⟨by rfl, ?_⟩) (by assumption) ?_
    · intro w hSw; simp only [List.getElem_toArray, List.getElem_cons_zero, List.getElem_cons_succ]; go_simp
    try simp only [Act.put, List.getElem_toArray, List.getElem_cons_zero, List.getElem_cons_succ, List.setIfInBounds_toArray, List.set_cons_zero, List.set_cons_succ]
    refine wpAnyH_done (by kernel_rfl) ?_ _
    go_wp2
    go_ret
    exact ⟨false, rfl, fun _ => rfl, fun h => (by rw [HF.out] at h; cases h), HB2.out⟩
  | true =>
    have HPb := Lib.hid hpb
    have h400 := (prob_ok hpb).1
    clear hpb
    refine wpAnyH_take (i := 2) (v := .bool true) rfl (by kernel_rfl) (by kernel_rfl) (by kernel_rfl) (fun _ _ _ h => h) (Or.inl ⟨by rfl, ?_⟩) (by assumption) ?_
    · intro w hSw; simp only [List.getElem_toArray, List.getElem_cons_zero, List.getElem_cons_succ]; go_simp
    try simp only [Act.put, List.getElem_toArray, List.getElem_cons_zero, List.getElem_cons_succ, List.setIfInBounds_toArray, List.set_cons_zero, List.set_cons_succ]
    refine wpAnyH_take (i := 3) (v := .slice Ap m capp) rfl (by kernel_rfl) (by kernel_rfl) (by kernel_rfl) (fun _ _ _ h => h) (Or.inl ⟨by rfl, ?_⟩) (by assumption) ?_
    · intro w hSw; simp only [List.getElem_toArray, List.getElem_cons_zero, List.getElem_cons_succ]; go_simp
    try simp only [Act.put, List.getElem_toArray, List.getElem_cons_zero, List.getElem_cons_succ, List.setIfInBounds_toArray, List.set_cons_zero, List.set_cons_succ]
    refine wpAnyH_take (i := 5) (v := .agg #[.slice A n cap, .int .i64 bd]) rfl (by kernel_rfl) (by kernel_rfl) (by kernel_rfl) (fun _ _ _ h => h) (Or.inl ⟨by rfl, ?_⟩) (by assumption) ?_
    · intro w hSw; obtain ⟨s0, s1⟩ := hSw; simp only [List.getElem_toArray, List.getElem_cons_zero, List.getElem_cons_succ]; go_simp
    try simp only [Act.put, List.getElem_toArray, List.getElem_cons_zero, List.getElem_cons_succ, List.setIfInBounds_toArray, List.set_cons_zero, List.set_cons_succ]
    clear hHeld
    refine wpAnyH_ready (rs := [4]) (by kernel_rfl) (by simp) ?_
    refine AllReadyH.cons rfl (fun K hK => ?_) AllReadyH.nil
    simp only [List.getElem_toArray, List.getElem_cons_zero, List.getElem_cons_succ]
    go_simp
    go_at_call 38
    refine (newPg_any Ap m capp p w2 (by omega) HRp2.out (fun i hi => ⟨(prob_ok HPb.out).2 i hi, HNs.out i hi⟩)).mono ?_
    rintro e w3 ⟨B, lv, uv, rfl, hPg, hb⟩
    have HPg := Lib.hid hPg
    have HB3 := Lib.hid (bl_trans HB2.out hb)
    have HR3 := Lib.hid (HR2.out.later hb)
    replace a0 := kc hb a0
    replace a1 := kc hb a1
    have hz3 := hb.size
    clear hPg hb HR2
    refine hK.out _ _ ⟨a0, a1⟩ (fun hHeld => ?_)
    clear hK K
    try simp only [Act.put, List.getElem_toArray, List.getElem_cons_zero, List.getElem_cons_succ, List.setIfInBounds_toArray, List.set_cons_zero, List.set_cons_succ]
    refine wpAnyH_ready (rs := [6]) (by kernel_rfl) (by simp) ?_
    refine AllReadyH.cons rfl (fun K hK => ?_) AllReadyH.nil
    simp only [List.getElem_toArray, List.getElem_cons_zero, List.getElem_cons_succ]
    go_simp
    go_at_call 45
    refine (follows_any _ B lv m p uv A n cap bd c l w3 HPg.out (by omega) (fun i hi => ⟨(prob_ok HPb.out).2 i hi, HNs.out i hi⟩) hn HR3.out).mono ?_
    rintro e w4 ⟨b, rfl, hb0, hb1, F', lv', uv', _, _, hk⟩
    have HB4 := Lib.hid (bl_keep2 HB2.out HB3.out hk)
    have hq : H < w2.heap.size := by rw [← hHe]; exact hHw
    have q0 : w4.cell? ⟨H, 0, none⟩ = some (.slice A n cap) := (World.cell?_of_block (hk.block H hq)).trans a0
    have q1 : w4.cell? ⟨H, 1, none⟩ = some (.int .i64 bd) := (World.cell?_of_block (hk.block H hq)).trans a1
    refine hK.out _ _ ⟨q0, q1⟩ (fun hHeld => ?_)
    clear hK K
    try simp only [Act.put, List.getElem_toArray, List.getElem_cons_zero, List.getElem_cons_succ, List.setIfInBounds_toArray, List.set_cons_zero, List.set_cons_succ]
    have H0 := Lib.hid hb0
    have H1 := Lib.hid hb1
    clear hb0 hb1 hk q0 q1
    refine wpAnyH_take (i := 7) (v := .bool b) rfl (by kernel_rfl) (by kernel_rfl) (by kernel_rfl) (fun _ _ _ h => h) (Or.inl ⟨by rfl, ?_⟩) (by assumption) ?_
    · intro w hSw; simp only [List.getElem_toArray, List.getElem_cons_zero, List.getElem_cons_succ]; go_simp
    try simp only [Act.put, List.getElem_toArray, List.getElem_cons_zero, List.getElem_cons_succ, List.setIfInBounds_toArray, List.set_cons_zero, List.set_cons_succ]
    refine wpAnyH_take (i := 8) (v := .bool b) rfl (by kernel_rfl) (by kernel_rfl) (by kernel_rfl) (fun _ _ _ h => h) (Or.inl ⟨by rfl, ?_⟩) (by assumption) ?_
    · intro w hSw; simp only [List.getElem_toArray, List.getElem_cons_zero, List.getElem_cons_succ]; go_simp
    try simp only [Act.put, List.getElem_toArray, List.getElem_cons_zero, List.getElem_cons_succ, List.setIfInBounds_toArray, List.set_cons_zero, List.set_cons_succ]
    refine wpAnyH_done (by kernel_rfl) ?_ _
    go_wp2
    go_ret
    exact ⟨b, rfl, fun h => H0.out (by rw [HPb.out] at h; simpa using h), fun h => H1.out (by rw [HPb.out] at h; simpa using h), HB4.out⟩
end Go.Proofs.Ytooknldfkcdneaa

