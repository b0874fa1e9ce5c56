/- Fixing two literals of different variables does not depend on their order (no claim of its own). Conditions: as each theorem states. -/
import Derived.Test.YtbebdhjhlheboaaFixL
import Derived.Test.YtbebdhjhlheboaaFixN
namespace Go.Proofs.Ytbebdhjhlheboaa
open Go.ChangeShapes Go.WideShapes Go.ChangeAt Go.RowKit

/-- The rows of a constraint; those that stay; what is taken from the bound. -/
def rowsA (c l : Nat → Int) (n : Nat) : List (Int × Int) := pkR c l (fun _ => true) n
def stay (v : Nat → Int) (R : List (Int × Int)) : List (Int × Int) := R.filter fun x => decide (stV v x.2 = 0)
def took (v : Nat → Int) : List (Int × Int) → Int
  | [] => 0
  | x :: R => (if stV v x.2 = 1 then x.1 else 0) + took v R
theorem took_app (v : Nat → Int) (R : List (Int × Int)) (y : Int × Int) : took v (R ++ [y]) = took v R + if stV v y.2 = 1 then y.1 else 0 := by
  induction R with
  | nil => show _ + (0 : Int) = 0 + _; omega
  | cons x R ih =>
    show _ + took v (R ++ [y]) = _ + took v R + _
    rw [ih]
    omega
theorem rows_len (c l : Nat → Int) (k : Nat) : (rowsA c l k).length = k := by
  unfold rowsA
  induction k with
  | zero => rfl
  | succ k ih => rw [pk_yes rfl, List.length_append, ih]; rfl
theorem fxR_stay (c l v : Nat → Int) (k : Nat) : fxR c l v k = stay v (rowsA c l k) := by
  unfold stay rowsA
  induction k with
  | zero => rfl
  | succ k ih =>
    rw [pk_yes (q := fun _ => true) rfl, List.filter_append, ← ih]
    by_cases h : stV v (l k) = 0
    · rw [fxR_yes h]
      simp [h]
    · rw [fxR_no h]
      simp [h]
theorem fxS_took (c l v : Nat → Int) (bd : Int) (k : Nat) : fxS c l bd v k = bd - took v (rowsA c l k) := by
  unfold rowsA
  induction k with
  | zero => show bd = bd - 0; omega
  | succ k ih =>
    rw [pk_yes (q := fun _ => true) rfl, took_app]
    by_cases h : stV v (l k) = 1
    · rw [fxS_yes h, ih, if_pos h]
      omega
    · rw [fxS_no h, ih, if_neg h]
      omega
theorem rows_of (R : List (Int × Int)) : rowsA (pkC R) (pkL R) R.length = R := by
  have h : ∀ k, k ≤ R.length → rowsA (pkC R) (pkL R) k = R.take k := by
    intro k
    induction k with
    | zero => intro _; rfl
    | succ k ih =>
      intro hk
      have h1 := ih (by omega)
      unfold rowsA at h1 ⊢
      rw [pk_yes rfl, h1, List.take_add_one, List.getElem?_eq_getElem (by omega)]
      unfold pkC pkL
      rw [List.getD_eq_getElem?_getD, List.getElem?_eq_getElem (by omega)]
      rfl
  rw [h _ (Nat.le_refl _), List.take_length]
theorem stay_comm (v1 v2 : Nat → Int) (R : List (Int × Int)) : stay v2 (stay v1 R) = stay v1 (stay v2 R) := by
  unfold stay
  rw [List.filter_filter, List.filter_filter]
  congr 1
  funext x
  exact Bool.and_comm _ _
theorem took_stay {v1 v2 : Nat → Int} {R : List (Int × Int)} (h : ∀ x ∈ R, stV v2 x.2 = 1 → stV v1 x.2 = 0) : took v2 (stay v1 R) = took v2 R := by
  induction R with
  | nil => rfl
  | cons x R ih =>
    have h1 := ih fun y hy => h y (List.mem_cons_of_mem _ hy)
    have h2 := h x (List.mem_cons_self ..)
    unfold stay at h1 ⊢
    rw [List.filter_cons]
    by_cases e : stV v1 x.2 = 0
    · rw [if_pos (by simp [e])]
      show _ + took v2 (R.filter _) = _ + took v2 R
      rw [h1]
    · rw [if_neg (by simp [e]), h1]
      have : ¬ stV v2 x.2 = 1 := fun e2 => e (h2 e2)
      show _ = _ + took v2 R
      rw [if_neg this]
      omega
theorem took_pos {v : Nat → Int} {R : List (Int × Int)} (h : ∀ x ∈ R, 0 ≤ x.1) : 0 ≤ took v R := by
  induction R with
  | nil => exact Int.le_refl _
  | cons x R ih =>
    have h1 := ih fun y hy => h y (List.mem_cons_of_mem _ hy)
    have h2 := h x (List.mem_cons_self ..)
    show 0 ≤ _ + took v R
    split <;> omega
theorem fxP_two {b s1 s2 : Int} (h2 : 0 ≤ s2) : fxP (fxP (b - s1) - s2) = fxP (b - s1 - s2) := by
  unfold fxP
  repeat' split
  all_goals omega
/-- A constraint out of its rows. -/
def ofR (R : List (Int × Int)) (b : Int) : Con := ⟨R.length, b, pkC R, pkL R⟩
theorem fx_ofR (v : Nat → Int) (x : Con) : fxCon v x = ofR (stay v (rowsA x.c x.l x.n)) (fxP (x.bd - took v (rowsA x.c x.l x.n))) := by
  unfold fxCon ofR
  rw [fxR_stay, fxS_took]
theorem fx_twice {v1 v2 : Nat → Int} {x : Con} (h : ∀ y ∈ rowsA x.c x.l x.n, stV v2 y.2 = 1 → stV v1 y.2 = 0) (hp : ∀ y ∈ rowsA x.c x.l x.n, 0 ≤ y.1) : fxCon v2 (fxCon v1 x) = ofR (stay v2 (stay v1 (rowsA x.c x.l x.n))) (fxP (x.bd - took v1 (rowsA x.c x.l x.n) - took v2 (rowsA x.c x.l x.n))) := by
  rw [fx_ofR v2, fx_ofR v1]
  show ofR (stay v2 (rowsA (pkC _) (pkL _) (List.length _))) (fxP (fxP _ - took v2 (rowsA (pkC _) (pkL _) (List.length _)))) = _
  rw [rows_of, took_stay h, fxP_two (took_pos hp)]
theorem fx_comm {v1 v2 : Nat → Int} {x : Con} (h1 : ∀ y ∈ rowsA x.c x.l x.n, stV v2 y.2 = 1 → stV v1 y.2 = 0) (h2 : ∀ y ∈ rowsA x.c x.l x.n, stV v1 y.2 = 1 → stV v2 y.2 = 0) (hp : ∀ y ∈ rowsA x.c x.l x.n, 0 ≤ y.1) : fxCon v2 (fxCon v1 x) = fxCon v1 (fxCon v2 x) := by
  rw [fx_twice h1 hp, fx_twice h2 hp, stay_comm]
  congr 2
  omega
theorem asg_st {z x : Int} (hz : litB z = true) (hx : litB x = true) (h : stV (asg zv0 z) x ≠ 0) : x = z ∨ x = -z := by
  obtain ⟨a0, a1, a2⟩ := litB_iff.1 hz
  obtain ⟨b0, b1, b2⟩ := litB_iff.1 hx
  unfold stV asg zv0 at h
  repeat' (split at h)
  all_goals first | omega | (exfalso; omega)
theorem fxl_comm {n : Nat} {p : Nat → Con} {z1 z2 : Int} (hv : probB n p = true) (h1 : litB z1 = true) (h2 : litB z2 = true) (ha : z2 ≠ z1) (hb : z2 ≠ -z1) (i : Nat) (hi : i < n) : fxlK (fxlK p z1) z2 i = fxlK (fxlK p z2) z1 i := by
  have hval : validB (p i).n (p i).c (p i).l (p i).bd = true := allV_at (prob_V hv) hi
  have hrow : ∀ y ∈ rowsA (p i).c (p i).l (p i).n, litB y.2 = true ∧ 0 ≤ y.1 := fun y hy => by
    obtain ⟨j, hj, _, rfl⟩ := pk_from (c := (p i).c) (l := (p i).l) (q := fun _ => true) (n := (p i).n) y hy
    exact ⟨litAt hval hj, by have := vb_coef hval j hj; show 0 ≤ (p i).c j; omega⟩
  refine fx_comm (fun y hy e => ?_) (fun y hy e => ?_) (fun y hy => (hrow y hy).2)
  · refine Classical.byContradiction fun hne => ?_
    have a := asg_st h2 (hrow y hy).1 (by rw [e]; decide)
    have b := asg_st h1 (hrow y hy).1 hne
    omega
  · refine Classical.byContradiction fun hne => ?_
    have a := asg_st h1 (hrow y hy).1 (by rw [e]; decide)
    have b := asg_st h2 (hrow y hy).1 hne
    omega
theorem fxl_prob {n : Nat} {p : Nat → Con} {z : Int} (h : fxlOk n p z = true) : probB n (fxlK p z) = true := by
  obtain ⟨h1, h2⟩ := fxl_ok h
  exact fix_prob (m := 12) ((fxl_eq h1).1.trans h)
theorem fxlN_eq {n : Nat} {p : Nat → Con} {z : Int} (h : fxlOk n p z = true) : fxlN n p z = n := if_pos h
theorem rdP_congr {w : World} {B : Nat} {A : Option Addr} {n : Nat} {p q : Nat → Con} (h : RdP w B A n p) (e : ∀ i, i < n → p i = q i) : RdP w B A n q := fun h0 => by
  obtain ⟨b, off, e1, hlt, hc⟩ := h h0
  refine ⟨b, off, e1, hlt, fun i hi => ?_⟩
  rw [← e i hi]
  exact hc i hi
end Go.Proofs.Ytbebdhjhlheboaa
