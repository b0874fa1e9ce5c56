/- Arithmetic of the law of weakening (no claim of its own). Conditions: as each theorem states. -/
import Derived.Test.YtipblbcedkhmbaaRulM
import Derived.Test.YtipblbcedkhmbaaWeaA
import Derived.Test.YtipblbcedkhmbaaCovM
namespace Go.Proofs.Ytipblbcedkhmbaa
open Go.ChangeShapes Go.WideShapes Go.ChangeAt Go.RowKit

/-- The sum of the coefficients whose literals hold. -/
def tW (P : Int → Bool) : List (Int × Int) → Int
  | [] => 0
  | z :: zs => (if P z.2 then z.1 else 0) + tW P zs
theorem tW_append (P : Int → Bool) (xs ys : List (Int × Int)) : tW P (xs ++ ys) = tW P xs + tW P ys := by
  induction xs with
  | nil => show tW P ys = 0 + _; omega
  | cons x xs ih => show _ + tW P (xs ++ ys) = _ + _ + _; rw [ih]; omega
theorem lst_end (c l : Nat → Int) : ∀ (m i : Nat), lst c l i (m + 1) = lst c l i m ++ [(c (i + m), l (i + m))] := by
  intro m
  induction m with
  | zero => intro i; rfl
  | succ m ih =>
    intro i
    show (c i, l i) :: lst c l (i + 1) (m + 1) = ((c i, l i) :: lst c l (i + 1) m) ++ _
    rw [ih (i + 1), show i + 1 + m = i + (m + 1) by omega]
    rfl
theorem sB_tW (c l : Nat → Int) (P : Int → Bool) (n : Nat) : sB c l P n = tW P (lst c l 0 n) := by
  induction n with
  | zero => rfl
  | succ n ih =>
    rw [lst_end, tW_append, ← ih, Nat.zero_add]
    show _ = _ + ((if P (l n) then c n else 0) + 0)
    cases hp : P (l n) with
    | true => rw [sB_yes hp, if_pos rfl]; omega
    | false => rw [sB_no hp, if_neg (by decide)]; omega
theorem lst_kept_at : ∀ (R pre : List (Int × Int)), lst (rC (pre ++ R)) (rL (pre ++ R)) pre.length R.length = R := by
  intro R
  induction R with
  | nil => intro pre; rfl
  | cons x R ih =>
    intro pre
    have h := ih (pre ++ [x])
    rw [List.append_assoc, List.length_append] at h
    show (rC (pre ++ x :: R) pre.length, rL (pre ++ x :: R) pre.length) :: lst _ _ (pre.length + 1) R.length = _
    have e : (pre ++ x :: R).getD pre.length (0, 0) = x := by simp
    unfold rC rL
    rw [e]
    exact congrArg _ h
theorem lst_kept (R : List (Int × Int)) : lst (rC R) (rL R) 0 R.length = R := lst_kept_at R []
theorem tW_congr {P Q : Int → Bool} {zs : List (Int × Int)} (h : ∀ z ∈ zs, P z.2 = Q z.2) : tW P zs = tW Q zs := by
  induction zs with
  | nil => rfl
  | cons z zs ih =>
    show (if P z.2 then z.1 else 0) + tW P zs = (if Q z.2 then z.1 else 0) + tW Q zs
    rw [h z (List.mem_cons_self ..), ih fun y hy => h y (List.mem_cons_of_mem _ hy)]
theorem tW_nonneg {P : Int → Bool} {zs : List (Int × Int)} (h : ∀ z ∈ zs, 0 ≤ z.1) : 0 ≤ tW P zs := by
  induction zs with
  | nil => exact Int.le_refl _
  | cons z zs ih =>
    have h1 := ih fun y hy => h y (List.mem_cons_of_mem _ hy)
    have h2 := h z (List.mem_cons_self ..)
    show 0 ≤ (if P z.2 then z.1 else 0) + tW P zs
    split <;> omega
theorem kept_ne {c l : Nat → Int} {v : Int} {n : Nat} : ∀ x ∈ kept c l v n, ab x.2 ≠ v := by
  induction n with
  | zero => intro x hx; cases hx
  | succ n ih =>
    intro x hx
    unfold kept at hx
    split at hx
    · exact ih x hx
    · rename_i h
      rcases List.mem_append.1 hx with h1 | h1
      · exact ih x h1
      · rw [List.mem_singleton.1 h1]
        exact h
theorem kept_mem {c l : Nat → Int} {v : Int} {n k : Nat} (hk : k < n) (h : ab (l k) ≠ v) : (c k, l k) ∈ kept c l v n := by
  induction n with
  | zero => omega
  | succ n ih =>
    unfold kept
    by_cases e : k = n
    · subst e
      rw [if_neg h]
      exact List.mem_append_right _ (List.mem_singleton.2 rfl)
    · have := ih (by omega)
      split
      · exact this
      · exact List.mem_append_left _ this
theorem kept_val {P : Int → Bool} {c l : Nat → Int} {bd v : Int} {n : Nat} (hc : ∀ i, i < n → 1 ≤ c i ∧ c i ≤ 1000) : sB c l P n ≤ tW P (kept c l v n) + (bd - wkB c l bd v n) := by
  induction n with
  | zero => show (0 : Int) ≤ 0 + (bd - bd); omega
  | succ n ih =>
    have h1 := ih fun i hi => hc i (by omega)
    have h2 := hc n (by omega)
    have h3 : sB c l P (n + 1) ≤ sB c l P n + c n ∧ (P (l n) = false → sB c l P (n + 1) = sB c l P n) := by
      cases hp : P (l n) with
      | true => rw [sB_yes hp]; exact ⟨Int.le_refl _, fun h => by cases h⟩
      | false => rw [sB_no hp]; exact ⟨by omega, fun _ => rfl⟩
    by_cases e : ab (l n) = v
    · rw [kept_no e, wkB_yes e]
      omega
    · rw [kept_yes e, wkB_no e, tW_append]
      have e5 : tW P [(c n, l n)] = (if P (l n) then c n else 0) + 0 := rfl
      rw [e5]
      cases hp : P (l n) with
      | true => rw [if_pos rfl]; omega
      | false => rw [if_neg (by decide)]; have := h3.2 hp; omega
theorem kept_rows {n : Nat} {c l : Nat → Int} {bd v : Int} (h : validB n c l bd = true) : ∀ z ∈ kept c l v n, 1 ≤ z.1 ∧ z.1 ≤ 1000 ∧ litB z.2 = true := fun z hz => by
  obtain ⟨j, hj, rfl⟩ := kept_from z hz
  exact ⟨(coef_of h j hj).1, (coef_of h j hj).2, litAt h hj⟩
theorem trueP_upd {v : Nat → Bool} {y : Int} {ix : Nat} (hy : litB y = true) (hne : ab y ≠ (ix : Int) + 1) (z : Bool) : trueP (fun i => if i = ix then z else v i) y = trueP v y := by
  obtain ⟨h0, h1, h2⟩ := litB_iff.1 hy
  unfold trueP
  unfold ab at hne
  by_cases hp : 0 < y
  · rw [if_pos hp, if_pos hp]
    exact if_neg (by split at hne <;> omega)
  · rw [if_neg hp, if_neg hp]
    exact congrArg (!·) (if_neg (by split at hne <;> omega))

/-- Weakening is sound, and leaves nothing of the variable. -/
theorem wea_law {n : Nat} {c l : Nat → Int} {bd kk : Int} (hn : n ≤ 1048576) (h : infB (weaR n c l bd kk) (kept c l kk n).length (rC (kept c l kk n)) (rL (kept c l kk n)) (capB (wkB c l bd kk n)) = true) :
    (1 ≤ kk ∧ kk ≤ 12) ∧ validB n c l bd = true ∧ validB (kept c l kk n).length (rC (kept c l kk n)) (rL (kept c l kk n)) (capB (wkB c l bd kk n)) = true ∧
    (∀ nv v, evalV n c l bd nv v = true → evalV (kept c l kk n).length (rC (kept c l kk n)) (rL (kept c l kk n)) (capB (wkB c l bd kk n)) nv v = true) ∧
    ∀ (v : Nat → Bool) (i : Nat) (z : Bool), kk = (i : Int) + 1 → evalV (kept c l kk n).length (rC (kept c l kk n)) (rL (kept c l kk n)) (capB (wkB c l bd kk n)) 12 (fun j => if j = i then z else v j) = evalV (kept c l kk n).length (rC (kept c l kk n)) (rL (kept c l kk n)) (capB (wkB c l bd kk n)) 12 v := by
  obtain ⟨hR, hv⟩ := infB_iff.1 h
  obtain ⟨hv0, h1, h2⟩ := weaR_iff.1 hR
  have hl : (kept c l kk n).length ≤ 1048576 := Nat.le_trans (kept_le n) hn
  refine ⟨⟨h1, h2⟩, hv0, hv, fun nv v he => ?_, fun v i z hi => ?_⟩
  · by_cases e : nv = 12
    · subst e
      rw [evalV_sB hn hv0, decide_eq_true_eq] at he
      rw [evalV_sB hl hv, decide_eq_true_eq, sB_tW, lst_kept]
      have k1 := kept_val (P := trueP v) (l := l) (bd := bd) (v := kk) (coef_of hv0)
      have k2 := tW_nonneg (P := trueP v) (zs := kept c l kk n) fun y hy => by have := kept_rows hv0 y hy; omega
      unfold capB
      split <;> omega
    · rw [evalV_len e] at he
      cases he
  · rw [evalV_sB hl hv, evalV_sB hl hv, sB_tW, sB_tW, lst_kept, tW_congr fun y hy => trueP_upd (kept_rows hv0 y hy).2.2 (by rw [← hi]; exact kept_ne y hy) z]
end Go.Proofs.Ytipblbcedkhmbaa
