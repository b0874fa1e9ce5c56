/- The memory of a propagation (no claim of its own). Conditions: as each theorem states. -/
import Derived.Test.YtooknldfkcdneaaPgN
import Derived.StillTailTactics
import Derived.Test.YtooknldfkcdneaaEvaA
namespace Go.Proofs.Ytooknldfkcdneaa
open Go.ChangeShapes Go.WideShapes Go.ChangeAt Go.RowKit Go.Shelf

/-- The block of a propagation: its propagator, its values, the slacks of the m constraints. -/
def PsAt (w : World) (S B : Nat) (v : Nat → Int) (m : Nat) (sl : Nat → Int) : Prop :=
  ∃ cs, w.heap[S]? = some (.cells cs 106 (0, 0)) ∧ cs.size = 1413 ∧ cs[0]? = some (.pointer (some ⟨B, 0, none⟩)) ∧ (∀ i, i < 12 → cs[1 + i]? = some (.int .i64 (v i))) ∧ ∀ i, i < m → cs[13 + i]? = some (.int .i64 (sl i))
section
variable {w w' : World} {S B m : Nat} {v sl : Nat → Int}
theorem PsAt.lt (h : PsAt w S B v m sl) : S < w.heap.size := by
  obtain ⟨cs, hh, _⟩ := h
  rcases Nat.lt_or_ge S w.heap.size with hlt | hge
  · exact hlt
  · rw [Array.getElem?_eq_none hge] at hh; cases hh
theorem PsAt.same (h : PsAt w S B v m sl) (hg : w'.heap[S]? = w.heap[S]?) : PsAt w' S B v m sl := by
  obtain ⟨cs, hh, h1⟩ := h
  exact ⟨cs, hg.trans hh, h1⟩
theorem PsAt.below (h : PsAt w S B v m sl) (hb : Below w.heap.size w w') : PsAt w' S B v m sl := h.same (hb.block S h.lt)
theorem PsAt.frozen (h : PsAt w S B v m sl) (j : Nat) : w.frozen? ⟨S, j, none⟩ = false := by
  obtain ⟨cs, hh, _⟩ := h
  simp [World.frozen?, hh]
theorem PsAt.cellP (h : PsAt w S B v m sl) : w.cell? ⟨S, 0, none⟩ = some (.pointer (some ⟨B, 0, none⟩)) := by
  obtain ⟨cs, hh, _, h1, _⟩ := h
  exact (cell_of_row w S 0 cs _ _ hh).trans h1
theorem PsAt.cellV (h : PsAt w S B v m sl) {i : Nat} (hi : i < 12) : w.cell? ⟨S, 1 + i, none⟩ = some (.int .i64 (v i)) := by
  obtain ⟨cs, hh, _, _, h2, _⟩ := h
  exact (cell_of_row w S _ cs _ _ hh).trans (h2 i hi)
theorem PsAt.cellS (h : PsAt w S B v m sl) {i : Nat} (hi : i < m) : w.cell? ⟨S, 13 + i, none⟩ = some (.int .i64 (sl i)) := by
  obtain ⟨cs, hh, _, _, _, h3⟩ := h
  exact (cell_of_row w S _ cs _ _ hh).trans (h3 i hi)
theorem PsAt.setV (h : PsAt w S B v m sl) {k : Nat} (hk : k < 12) (z : Int) : PsAt (w.setCell ⟨S, 1 + k, none⟩ (.int .i64 z)) S B (fun i => if i = k then z else v i) m sl := by
  obtain ⟨cs, hh, hs, h1, h2, h3⟩ := h
  refine ⟨cs.setIfInBounds (1 + k) (.int .i64 z), heap_put _ hh, by simpa using hs, ?_, fun i hi => ?_, fun j hj => ?_⟩
  · rw [Array.getElem?_setIfInBounds, if_neg (by omega)]; exact h1
  · rw [Array.getElem?_setIfInBounds]
    by_cases e : i = k
    · subst e
      rw [if_pos rfl, if_pos (by omega)]
      simp
    · rw [if_neg (by omega)]
      show _ = some (Value.int .i64 (if i = k then z else v i))
      rw [if_neg e]
      exact h2 i hi
  · rw [Array.getElem?_setIfInBounds, if_neg (by omega)]; exact h3 j hj
theorem PsAt.setS (h : PsAt w S B v m sl) {k : Nat} (hk : k < m) (hm : m ≤ 1400) (z : Int) : PsAt (w.setCell ⟨S, 13 + k, none⟩ (.int .i64 z)) S B v m (fun i => if i = k then z else sl i) := by
  obtain ⟨cs, hh, hs, h1, h2, h3⟩ := h
  refine ⟨cs.setIfInBounds (13 + k) (.int .i64 z), heap_put _ hh, by simpa using hs, ?_, fun i hi => ?_, fun j hj => ?_⟩
  · rw [Array.getElem?_setIfInBounds, if_neg (by omega)]; exact h1
  · rw [Array.getElem?_setIfInBounds, if_neg (by omega)]; exact h2 i hi
  · rw [Array.getElem?_setIfInBounds]
    by_cases e : j = k
    · subst e
      rw [if_pos rfl, if_pos (by omega)]
      simp
    · rw [if_neg (by omega)]
      show _ = some (Value.int .i64 (if j = k then z else sl j))
      rw [if_neg e]
      exact h3 j hj
end

/-- What a literal's variable gets. -/
def sgn1 (z : Int) : Int := if 0 < z then 1 else -1
def vix (z : Int) : Nat := (ab z - 1).toNat
theorem vix_lt {z : Int} (h : litB z = true) : vix z < 12 ∧ ab z = (vix z : Int) + 1 := by
  obtain ⟨h0, h1, h2⟩ := litB_iff.1 h
  have h3 := ab_pos h
  have h4 : ab z ≤ 12 := by unfold ab; split <;> omega
  unfold vix
  omega
theorem asg_vix {v : Nat → Int} {z : Int} (h : litB z = true) : asg v z = fun i => if i = vix z then sgn1 z else v i := by
  obtain ⟨h0, h1, h2⟩ := litB_iff.1 h
  funext i
  unfold asg sgn1 vix
  by_cases hp : 0 < z
  · have e : ab z = z := by unfold ab; rw [if_neg (by omega)]
    rw [if_pos hp, if_pos hp, e]
  · have e : ab z = -z := by unfold ab; rw [if_pos (by omega)]
    rw [if_neg hp, if_neg hp, e]

set_option maxRecDepth 100000 in
set_option maxHeartbeats 1600000 in
theorem ptMake_any (G o : Nat) (z : Int) (w : World) (hz : litB z = true) (hc : ∀ i, i < 12 → ∃ u, w.cell? ⟨G, o + i, none⟩ = some u) (hf : ∀ i, i < 12 → w.frozen? ⟨G, o + i, none⟩ = false) :
    Calls Try.prog 92 #[.pointer (some ⟨G, o, none⟩), .int .i64 z] w fun e w' => e = .returned (.tuple #[]) ∧ w' = (w.setCell ⟨G, o + vix z, none⟩ (.int .i64 (sgn1 z))).drew := by
  obtain ⟨h0, h1, h2⟩ := litB_iff.1 hz
  obtain ⟨hi, hab⟩ := vix_lt hz
  obtain ⟨u, hu⟩ := hc _ hi
  have hfi := hf _ hi
  have hvar := fun W => litVariable_same z W h1 h2
  rw [hab] at hvar
  obtain ⟨i, hie⟩ : ∃ i, vix z = i := ⟨_, rfl⟩
  rw [hie] at hi hu hfi hvar ⊢
  have HV := Lib.hid hvar
  have hw1 : wrap64 ((i : Int) + 1 - 1) = (i : Int) := by rw [← IntWalk.i64_left, IntWalk.i64_in _ (by omega)]; omega
  have hw2 : IntKind.i64.wrap ((i : Int) + 1 - 1) = (i : Int) := by rw [IntWalk.i64_in _ (by omega)]; omega
  have hw0 : IntKind.i64.wrap (i : Int) = (i : Int) := IntWalk.i64_in _ (by omega)
  have hi0 : (0 : Int) ≤ (i : Int) := by omega
  have hi1 : (i : Int) < 12 := by omega
  have hsg : sgn1 z = if z < 0 then -1 else 1 := by unfold sgn1; split <;> split <;> omega
  clear hc hf hvar hie hab
  by_cases hp : z < 0
  · rw [hsg, if_pos hp]
    clear hsg hz h0 h1 h2
    go_enter Try.func92, Try.ntmps92
    go_wp2_with (first | (go_at_call 83; refine (litNegated_any _ _).mono ?_; rintro e w2 ⟨rfl, rfl⟩) | (go_at_call 82; refine (HV.out _).mono ?_; rintro e w2 ⟨rfl, rfl⟩))
    go_region_law (go_simp; go_at_call 82; refine (HV.out _).mono ?_; rintro e w3 ⟨rfl, rfl⟩)
    all_goals go_wp2
    all_goals exact ⟨rfl, .tuple #[], by simp [results, Try.results92], rfl, rfl⟩
  · rw [hsg, if_neg hp]
    clear hsg hz h0 h1 h2
    go_enter Try.func92, Try.ntmps92
    go_wp2_with (first | (go_at_call 83; refine (litNegated_any _ _).mono ?_; rintro e w2 ⟨rfl, rfl⟩) | (go_at_call 82; refine (HV.out _).mono ?_; rintro e w2 ⟨rfl, rfl⟩))
    go_region_law (go_simp; go_at_call 82; refine (HV.out _).mono ?_; rintro e w3 ⟨rfl, rfl⟩)
    all_goals go_wp2
    all_goals exact ⟨rfl, .tuple #[], by simp [results, Try.results92], rfl, rfl⟩
end Go.Proofs.Ytooknldfkcdneaa
