/- A contract of slices.Clone at terms, and a row of terms whose coefficients are written one by one (no claim of its own). Conditions: as each theorem states. -/
import Derived.Test.YtnfkhakgikbbeaaGreatOutB
import Derived.Lib.SliceRun
namespace Go.Proofs.YtnfkhakgikbbeaaGreat
open Go.ChangeShapes Go.WideShapes Go.ChangeAt Go.RowKit

theorem Tryz.sizeTerm : ∀ w, (Go.sizeOf 83).run Tryz.prog w = .ok 2 w := fun _ => by kernel_rfl

theorem flat_one (c l : Nat → Int) (n : Nat) : ∀ u ∈ flat c l n, u.oneCell' = true := by
  induction n with
  | zero => intro u hu; cases hu
  | succ n ih =>
    intro u hu
    unfold flat at hu
    rcases List.mem_append.1 hu with h | h
    · exact ih u h
    · simp at h
      rcases h with rfl | rfl <;> rfl
theorem flat_cell {w : World} {b off n : Nat} {c l : Nat → Int} (hc : ∀ i, i < n → w.cell? ⟨b, off + i * 2, none⟩ = some (.int .i64 (c i)) ∧ w.cell? ⟨b, off + i * 2 + 1, none⟩ = some (.int .i64 (l i))) :
    ∀ j u, (flat c l n)[j]? = some u → w.cell? ⟨b, off + j, none⟩ = some u := by
  intro j u hj
  have hlt : j < n * 2 := by
    rw [← flat_length c l n]
    rcases Nat.lt_or_ge j (flat c l n).length with h | h
    · exact h
    · rw [List.getElem?_eq_none h] at hj; cases hj
  obtain ⟨i, hi, e⟩ : ∃ i, i < n ∧ (j = i * 2 ∨ j = i * 2 + 1) := ⟨j / 2, by omega, by omega⟩
  obtain ⟨h1, h2⟩ := flat_at c l hi
  obtain ⟨g1, g2⟩ := hc i hi
  rcases e with rfl | rfl
  · rw [h1] at hj; cases hj; exact g1
  · rw [h2] at hj; cases hj; exact g2

set_option maxRecDepth 100000 in
set_option maxHeartbeats 800000 in
theorem clone_any (A : Option Addr) (n cap : Nat) (c l : Nat → Int) (w : World) (hn : n ≤ 1048576) (hr : Rd w w.heap.size A n c l) :
    Calls Tryz.prog 59 #[.slice A n cap] w fun e w' => ∃ A' cap', e = .returned (.slice A' n cap') ∧ Frs w' w.heap.size A' n c l ∧ Below w.heap.size w w' := by
  have qT : ∀ (w : World) (a : Option Addr) (n c n' c' : Nat), (binOp .eql 58 (.slice a n c) (.slice none n' c')).run Tryz.prog w = .ok (.bool a.isNone) w := fun w a n c n' c' => Lib.run_eql_slice_nil w _ _ a n c n' c' Tryz.underlying58
  cases A with
  | none =>
    have h0 : n = 0 := by
      rcases Nat.eq_zero_or_pos n with h | h
      · exact h
      · obtain ⟨b, off, e, _⟩ := hr h; cases e
    subst h0
    go_enter Tryz.func59, Tryz.ntmps59
    go_wp2
    go_ret
    exact ⟨none, 0, rfl, .inl rfl, Below.refl _ _⟩
  | some a =>
    obtain ⟨i0, hi, hz0, hz1, hz2⟩ := info_parts Tryz.infoTerm
    have A' := Lib.hid hr
    clear hr
    go_enter Tryz.func59, Tryz.ntmps59
    go_wp2_with (at_builtin; refine wpList_append_own _ rfl _ _ 58 rfl w.heap.size 83 i0 _ 2 16 Tryz.underlying58 hi hz0 hz1 hz2 rfl (by omega) _ _ _ rfl (World.ownsRow_made w #[] 0 (Nat.le_refl _) (Nat.zero_le _) (by simp)) a n cap (flat c l n) rfl ?qc1 ?qc2 ?qc3 ?qc4 ?qc5 ?qc6 ?_)
    case qc1 => exact flat_length c l n
    case qc2 =>
      intro j u hj
      have hp : 0 < n := by
        rcases Nat.eq_zero_or_pos n with h | h
        · subst h; simp [flat] at hj
        · exact h
      obtain ⟨b, off, e, hb, hc⟩ := A'.out hp
      cases e
      rw [Addr.add_lit]
      exact Lib.cell?_alloc_some _ (flat_cell hc j u hj)
    case qc3 => exact flat_one c l n
    case qc4 => rw [Nat.zero_add]; unfold maxLen; omega
    case qc5 => rw [Nat.zero_add]; omega
    case qc6 => simp
    intro v' w1 hown hgrow hnil
    go_wp2
    go_ret
    obtain ⟨G, cp, rfl, hF⟩ := frs_of_row (by simpa using hown)
    exact ⟨G, cp, rfl, hF, ((Below.refl _ w).alloc (Nat.le_refl _) _).grown hgrow (by simp) (by intro k hk; simp [Value.ownBlock] at hk; omega)⟩

/-- The first k numbers new, the others old. -/
def mix (f c : Nat → Int) (k i : Nat) : Int := if i < k then f i else c i
theorem mix_zero (f c : Nat → Int) : mix f c 0 = c := by funext i; simp [mix]
theorem mix_at (f c : Nat → Int) (k : Nat) : mix f c k k = c k := by simp [mix]
theorem OwnU.to {w : World} {G n : Nat} {c l c' : Nat → Int} (h : OwnU w G n n c l) (he : ∀ i, i < n → c i = c' i) : OwnU w G n n c' l := by
  obtain ⟨cs, hh, h1, h2⟩ := h
  exact ⟨cs, hh, h1, fun i hi => by rw [← he i hi]; exact h2 i hi⟩
theorem OwnU.coef {w : World} {G n k : Nat} {f c l : Nat → Int} {x : Int} (h : OwnU w G n n (mix f c k) l) (hk : k < n) (hx : f k = x) :
    OwnU (w.setCell ⟨G, k * 2, none⟩ (.int .i64 x)) G n n (mix f c (k + 1)) l := by
  subst hx
  obtain ⟨cs, hh, h1, h2⟩ := h
  refine ⟨cs.setIfInBounds (k * 2) (.int .i64 (f k)), ?_, by simpa using h1, fun i hi => ?_⟩
  · simp [World.setCell, Array.getElem?_modify, hh]
  · obtain ⟨a, b⟩ := h2 i hi
    simp only [Array.getElem?_setIfInBounds]
    by_cases e : i = k
    · subst e
      refine ⟨?_, by rw [if_neg (by omega)]; exact b⟩
      rw [if_pos rfl, if_pos (by omega)]
      simp [mix]
    · refine ⟨?_, by rw [if_neg (by omega)]; exact b⟩
      rw [if_neg (by omega), a]
      unfold mix
      by_cases h : i < k
      · rw [if_pos h, if_pos (by omega)]
      · rw [if_neg h, if_neg (by omega)]
theorem frs_mixed {w : World} {B n : Nat} {A : Option Addr} {f c l : Nat → Int} (h : Frs w B A n (mix f c n) l) : Frs w B A n f l := by
  rcases h with h | ⟨G, e, hG, h⟩
  · exact .inl h
  · exact .inr ⟨G, e, hG, h.to fun i hi => by simp [mix, hi]⟩
theorem vtB_coef {n : Nat} {c c' l : Nat → Int} (h : vtB c l n = true) (hc : ∀ i, i < n → 1 ≤ c' i ∧ c' i ≤ 1000) : vtB c' l n = true := by
  induction n with
  | zero => rfl
  | succ n ih =>
    unfold vtB at h ⊢
    rw [Bool.and_eq_true] at h ⊢
    refine ⟨ih h.1 (fun i hi => hc i (by omega)), ?_⟩
    have h1 := h.2
    have h2 := hc n (by omega)
    cases n <;> simp [okAt] at h1 ⊢ <;> simp [h1, h2]
theorem valid_coef {n : Nat} {c l : Nat → Int} {bd : Int} (h : validB n c l bd = true) {i : Nat} (hi : i < n) : 1 ≤ c i ∧ c i ≤ 1000 := by
  unfold validB at h
  rw [Bool.and_eq_true] at h
  exact okAt_coef (vtB_at h.1 hi)
theorem valid_bd {n : Nat} {c l : Nat → Int} {bd : Int} (h : validB n c l bd = true) : 0 ≤ bd ∧ bd ≤ 20000 := by
  unfold validB at h
  rw [Bool.and_eq_true] at h
  simpa using h.2
theorem valid_mk {n : Nat} {c l c' : Nat → Int} {bd bd' : Int} (h : validB n c l bd = true) (hc : ∀ i, i < n → 1 ≤ c' i ∧ c' i ≤ 1000) (h0 : 0 ≤ bd') (h1 : bd' ≤ 20000) : validB n c' l bd' = true := by
  unfold validB at h ⊢
  rw [Bool.and_eq_true] at h ⊢
  exact ⟨vtB_coef h.1 hc, by simp; omega⟩
end Go.Proofs.YtnfkhakgikbbeaaGreat
