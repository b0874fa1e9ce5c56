/- The loss between two constraints, off the pairs and off the lists (no claim of its own). Conditions: as each theorem states. -/
import Derived.Test.YtipblbcedkhmbaaPairA
namespace Go.Proofs.Ytipblbcedkhmbaa
open Go.ChangeShapes Go.WideShapes Go.ChangeAt Go.RowKit

def max0 (x : Int) : Int := if x < 0 then 0 else x
def los0 (x : (Int × Int) × (Int × Int)) : Int := if x.1.2 = x.2.2 then max0 (x.1.1 - x.2.1) else x.1.1
def losP : List ((Int × Int) × (Int × Int)) → Int
  | [] => 0
  | x :: xs => los0 x + losP xs
def coefR : List (Int × Int) → Int → Int
  | [], _ => 0
  | y :: ys, t => if y.2 = t then y.1 else coefR ys t
def losR : List (Int × Int) → List (Int × Int) → Int
  | [], _ => 0
  | x :: xs, ys => max0 (x.1 - coefR ys x.2) + losR xs ys
def rowOk (x : Int × Int) : Prop := litB x.2 = true ∧ 1 ≤ x.1 ∧ x.1 ≤ 1000
def srt : List (Int × Int) → Prop
  | [] => True
  | x :: xs => rowOk x ∧ (∀ z ∈ xs, ab x.2 < ab z.2) ∧ srt xs
theorem srt.all {xs : List (Int × Int)} (h : srt xs) : ∀ x ∈ xs, rowOk x := by
  induction xs with
  | nil => intro x hx; cases hx
  | cons y ys ih =>
    intro x hx
    rcases List.mem_cons.1 hx with rfl | hx
    · exact h.1
    · exact ih h.2.2 x hx
theorem coefR_none {ys : List (Int × Int)} {t : Int} (h : ∀ z ∈ ys, z.2 ≠ t) : coefR ys t = 0 := by
  induction ys with
  | nil => rfl
  | cons y ys ih =>
    unfold coefR
    rw [if_neg (h y (List.mem_cons_self ..))]
    exact ih fun z hz => h z (List.mem_cons_of_mem _ hz)
theorem losR_skip {xs ys : List (Int × Int)} {y : Int × Int} (h : ∀ x ∈ xs, y.2 ≠ x.2) : losR xs (y :: ys) = losR xs ys := by
  induction xs with
  | nil => rfl
  | cons x xs ih =>
    unfold losR
    rw [ih fun z hz => h z (List.mem_cons_of_mem _ hz)]
    have : coefR (y :: ys) x.2 = coefR ys x.2 := if_neg (h x (List.mem_cons_self ..))
    rw [this]
theorem lit0 {n : Int} (h : litB n = true) : n ≠ 0 := (litB_iff.1 h).1
theorem prs_loss : ∀ (k : Nat) (xs ys : List (Int × Int)), xs.length + ys.length ≤ k → srt xs → srt ys → losP (prs xs ys) = losR xs ys := by
  intro k
  induction k with
  | zero =>
    intro xs ys h _ _
    have h1 : xs = [] := List.length_eq_zero_iff.1 (by omega)
    have h2 : ys = [] := List.length_eq_zero_iff.1 (by omega)
    subst h1 h2
    rfl
  | succ k ih =>
    intro xs ys h hs hs'
    cases xs with
    | nil =>
      cases ys with
      | nil => rfl
      | cons y ys =>
        rw [prs_right]
        simp only [List.length_cons, List.length_nil] at h
        have e := ih [] ys (by simp; omega) hs hs'.2.2
        have h0 := lit0 hs'.1.1
        show los0 ((0, 0), y) + losP (prs [] ys) = 0
        rw [e]
        have : los0 ((0, 0), y) = 0 := if_neg (fun e => h0 e.symm)
        rw [this]
        rfl
    | cons x xs =>
      have hx0 := lit0 hs.1.1
      have hx1 := hs.1.2.1
      cases ys with
      | nil =>
        rw [prs_left]
        simp only [List.length_cons, List.length_nil] at h
        have e := ih xs [] (by simp; omega) hs.2.2 hs'
        show los0 (x, (0, 0)) + losP (prs xs []) = max0 (x.1 - 0) + losR xs []
        rw [e]
        have h1 : los0 (x, (0, 0)) = x.1 := if_neg hx0
        have h2 : max0 (x.1 - 0) = x.1 := by unfold max0; rw [if_neg (by omega)]; omega
        rw [h1, h2]
      | cons y ys =>
        simp only [List.length_cons] at h
        rcases Int.lt_trichotomy (ab x.2) (ab y.2) with hlt | heq | hgt
        · rw [prs_lt hlt]
          have e := ih xs (y :: ys) (by simp; omega) hs.2.2 hs'
          show los0 (x, (0, 0)) + losP (prs xs (y :: ys)) = max0 (x.1 - coefR (y :: ys) x.2) + losR xs (y :: ys)
          rw [e]
          have h1 : los0 (x, (0, 0)) = x.1 := if_neg hx0
          have h3 : coefR (y :: ys) x.2 = 0 := coefR_none fun z hz e2 => by
            rcases List.mem_cons.1 hz with rfl | hz
            · rw [e2] at hlt; omega
            · have := hs'.2.1 z hz
              rw [e2] at this
              omega
          have h2 : max0 (x.1 - 0) = x.1 := by unfold max0; rw [if_neg (by omega)]; omega
          rw [h1, h3, h2]
        · rw [prs_eq heq]
          have e := ih xs ys (by omega) hs.2.2 hs'.2.2
          show los0 (x, y) + losP (prs xs ys) = max0 (x.1 - coefR (y :: ys) x.2) + losR xs (y :: ys)
          rw [e, losR_skip (xs := xs) (ys := ys) (y := y) (fun z hz e => by have := hs.2.1 z hz; rw [← e] at this; omega)]
          by_cases hl : x.2 = y.2
          · have h1 : los0 (x, y) = max0 (x.1 - y.1) := if_pos hl
            have h2 : coefR (y :: ys) x.2 = y.1 := if_pos hl.symm
            rw [h1, h2]
          · have h1 : los0 (x, y) = x.1 := if_neg hl
            have h2 : coefR (y :: ys) x.2 = coefR ys x.2 := if_neg (fun e => hl e.symm)
            have h3 : coefR ys x.2 = 0 := coefR_none fun z hz e => by
              have := hs'.2.1 z hz
              rw [e] at this
              omega
            have h4 : max0 (x.1 - 0) = x.1 := by unfold max0; rw [if_neg (by omega)]; omega
            rw [h1, h2, h3, h4]
        · rw [prs_gt hgt]
          have e := ih (x :: xs) ys (by simp; omega) hs hs'.2.2
          have hy0 := lit0 hs'.1.1
          show los0 ((0, 0), y) + losP (prs (x :: xs) ys) = losR (x :: xs) (y :: ys)
          rw [e, losR_skip (xs := x :: xs) (ys := ys) (y := y) (fun z hz e2 => by
            rcases List.mem_cons.1 hz with rfl | hz
            · rw [e2] at hgt; omega
            · have := hs.2.1 z hz
              rw [← e2] at this
              omega)]
          have : los0 ((0, 0), y) = 0 := if_neg (fun e => hy0 e.symm)
          rw [this]
          omega

theorem mrg_mem : ∀ (k : Nat) (xs ys : List (Int × Int)) (p : (Int × Int) × (Int × Int)), p ∈ mrg k xs ys → (p.1 ∈ xs ∨ p.1 = (0, 0)) ∧ (p.2 ∈ ys ∨ p.2 = (0, 0)) := by
  intro k
  induction k with
  | zero => intro xs ys p hp; cases hp
  | succ k ih =>
    intro xs ys p hp
    cases xs with
    | nil =>
      cases ys with
      | nil => cases hp
      | cons y ys =>
        rcases List.mem_cons.1 hp with rfl | hp
        · exact ⟨.inr rfl, .inl (List.mem_cons_self ..)⟩
        · obtain ⟨h1, h2⟩ := ih _ _ p hp
          exact ⟨h1, h2.imp (List.mem_cons_of_mem _) id⟩
    | cons x xs =>
      cases ys with
      | nil =>
        rcases List.mem_cons.1 hp with rfl | hp
        · exact ⟨.inl (List.mem_cons_self ..), .inr rfl⟩
        · obtain ⟨h1, h2⟩ := ih _ _ p hp
          exact ⟨h1.imp (List.mem_cons_of_mem _) id, h2⟩
      | cons y ys =>
        simp only [mrg] at hp
        split at hp
        · rcases List.mem_cons.1 hp with rfl | hp
          · exact ⟨.inl (List.mem_cons_self ..), .inr rfl⟩
          · obtain ⟨h1, h2⟩ := ih _ _ p hp
            exact ⟨h1.imp (List.mem_cons_of_mem _) id, h2⟩
        · split at hp
          · rcases List.mem_cons.1 hp with rfl | hp
            · exact ⟨.inr rfl, .inl (List.mem_cons_self ..)⟩
            · obtain ⟨h1, h2⟩ := ih _ _ p hp
              exact ⟨h1, h2.imp (List.mem_cons_of_mem _) id⟩
          · rcases List.mem_cons.1 hp with rfl | hp
            · exact ⟨.inl (List.mem_cons_self ..), .inl (List.mem_cons_self ..)⟩
            · obtain ⟨h1, h2⟩ := ih _ _ p hp
              exact ⟨h1.imp (List.mem_cons_of_mem _) id, h2.imp (List.mem_cons_of_mem _) id⟩
theorem mrg_len : ∀ (k : Nat) (xs ys : List (Int × Int)), (mrg k xs ys).length ≤ k := by
  intro k
  induction k with
  | zero => intro xs ys; exact Nat.le_refl _
  | succ k ih =>
    intro xs ys
    cases xs with
    | nil =>
      cases ys with
      | nil => exact Nat.zero_le _
      | cons y ys => exact Nat.succ_le_succ (ih _ _)
    | cons x xs =>
      cases ys with
      | nil => exact Nat.succ_le_succ (ih _ _)
      | cons y ys =>
        simp only [mrg]
        split
        · exact Nat.succ_le_succ (ih _ _)
        · split <;> exact Nat.succ_le_succ (ih _ _)
/-- Of a pair: both coefficients are between 0 and 1000. -/
def pairOk (p : (Int × Int) × (Int × Int)) : Prop := (0 ≤ p.1.1 ∧ p.1.1 ≤ 1000) ∧ (0 ≤ p.2.1 ∧ p.2.1 ≤ 1000)
theorem prs_ok {xs ys : List (Int × Int)} (h : srt xs) (h' : srt ys) : ∀ p ∈ prs xs ys, pairOk p := by
  intro p hp
  obtain ⟨h1, h2⟩ := mrg_mem _ _ _ p hp
  constructor
  · rcases h1 with h1 | h1
    · have := h.all _ h1
      unfold rowOk at this
      omega
    · rw [h1]; exact ⟨by decide, by decide⟩
  · rcases h2 with h2 | h2
    · have := h'.all _ h2
      unfold rowOk at this
      omega
    · rw [h2]; exact ⟨by decide, by decide⟩
theorem lst_len (c l : Nat → Int) (i m : Nat) : (lst c l i m).length = m := by
  induction m generalizing i with
  | zero => rfl
  | succ m ih => simp [lst, ih]
theorem lst_mem {c l : Nat → Int} {i m : Nat} : ∀ x ∈ lst c l i m, ∃ j, i ≤ j ∧ j < i + m ∧ x = (c j, l j) := by
  induction m generalizing i with
  | zero => intro x hx; cases hx
  | succ m ih =>
    intro x hx
    rcases List.mem_cons.1 hx with rfl | hx
    · exact ⟨i, Nat.le_refl _, by omega, rfl⟩
    · obtain ⟨j, h1, h2, e⟩ := ih x hx
      exact ⟨j, by omega, by omega, e⟩
theorem mono_of {n : Nat} {c l : Nat → Int} (h : vtB c l n = true) : ∀ j i, i < j → j < n → ab (l i) < ab (l j) := by
  intro j
  induction j with
  | zero => intro i hi; omega
  | succ j ih =>
    intro i hi hj
    have h1 := vtB_at h hj
    have h2 : ab (l j) < ab (l (j + 1)) := by simp [okAt] at h1; exact h1.2
    by_cases e : i = j
    · subst e; exact h2
    · have := ih i (by omega) (by omega)
      omega
theorem srt_lst {n : Nat} {c l : Nat → Int} (h : vtB c l n = true) : ∀ (m i : Nat), i + m = n → srt (lst c l i m) := by
  intro m
  induction m with
  | zero => intro i _; trivial
  | succ m ih =>
    intro i hi
    have h1 := vtB_at h (show i < n by omega)
    refine ⟨⟨okAt_lit h1, okAt_coef h1⟩, fun z hz => ?_, ih (i + 1) (by omega)⟩
    obtain ⟨j, h2, h3, rfl⟩ := lst_mem z hz
    exact mono_of h j i (by omega) (by omega)
theorem srt_valid {n : Nat} {c l : Nat → Int} {bd : Int} (h : validB n c l bd = true) : srt (lst c l 0 n) := by
  unfold validB at h
  rw [Bool.and_eq_true] at h
  exact srt_lst h.1 n 0 (by omega)
theorem losR_bnd {xs ys : List (Int × Int)} (h : srt xs) (h' : srt ys) : 0 ≤ losR xs ys ∧ losR xs ys ≤ 1000 * (xs.length : Int) := by
  induction xs with
  | nil => exact ⟨Int.le_refl _, by simp [losR]⟩
  | cons x xs ih =>
    obtain ⟨h1, h2⟩ := ih h.2.2
    have h3 := h.1.2
    have h4 : 0 ≤ coefR ys x.2 := by
      have key : ∀ ys : List (Int × Int), srt ys → 0 ≤ coefR ys x.2 := by
        intro ys
        induction ys with
        | nil => intro _; exact Int.le_refl _
        | cons y ys ih =>
          intro hy
          unfold coefR
          split
          · have := hy.1.2.1; omega
          · exact ih hy.2.2
      exact key ys h'
    unfold losR max0
    simp only [List.length_cons]
    split <;> omega
end Go.Proofs.Ytipblbcedkhmbaa
