/- The loss between two constraints, off the pairs and off the lists (no claim of its own). Conditions: as each theorem states. · Contracts of the program's addTerms, and the world behind a range's steps (no claim of its own). Conditions: as each theorem states. · Contracts of the program's addition (no claim of its own). Conditions: as each theorem states. -/
import Derived.Test.YtaghnjkpanjioaaPairA
import Derived.Test.YtaghnjkpanjioaaPairD
import Derived.Test.YtaghnjkpanjioaaNorC
import Derived.Test.YtaghnjkpanjioaaInfA
import Derived.Outline
import Derived.OwnWalkIn
namespace Go.Proofs.Ytaghnjkpanjioaa
open Go.ChangeShapes Go.WideShapes Go.ChangeAt Go.RowKit

def max0 (x : Int) : Int := if x < 0 then 0 else x
def los0 (x : (Int × Int) × (Int × Int)) : Int := if x.1.2 = x.2.2 then max0 (x.1.1 - x.2.1) else x.1.1
def losP : List ((Int × Int) × (Int × Int)) → Int
  | [] => 0
  | x :: xs => los0 x + losP xs
def coefR : List (Int × Int) → Int → Int
  | [], _ => 0
  | y :: ys, t => if y.2 = t then y.1 else coefR ys t
def losR : List (Int × Int) → List (Int × Int) → Int
  | [], _ => 0
  | x :: xs, ys => max0 (x.1 - coefR ys x.2) + losR xs ys
def rowOk (x : Int × Int) : Prop := litB x.2 = true ∧ 1 ≤ x.1 ∧ x.1 ≤ 1000
def srt : List (Int × Int) → Prop
  | [] => True
  | x :: xs => rowOk x ∧ (∀ z ∈ xs, ab x.2 < ab z.2) ∧ srt xs
theorem srt.all {xs : List (Int × Int)} (h : srt xs) : ∀ x ∈ xs, rowOk x := by
  induction xs with
  | nil => intro x hx; cases hx
  | cons y ys ih =>
    intro x hx
    rcases List.mem_cons.1 hx with rfl | hx
    · exact h.1
    · exact ih h.2.2 x hx
theorem coefR_none {ys : List (Int × Int)} {t : Int} (h : ∀ z ∈ ys, z.2 ≠ t) : coefR ys t = 0 := by
  induction ys with
  | nil => rfl
  | cons y ys ih =>
    unfold coefR
    rw [if_neg (h y (List.mem_cons_self ..))]
    exact ih fun z hz => h z (List.mem_cons_of_mem _ hz)
theorem losR_skip {xs ys : List (Int × Int)} {y : Int × Int} (h : ∀ x ∈ xs, y.2 ≠ x.2) : losR xs (y :: ys) = losR xs ys := by
  induction xs with
  | nil => rfl
  | cons x xs ih =>
    unfold losR
    rw [ih fun z hz => h z (List.mem_cons_of_mem _ hz)]
    have : coefR (y :: ys) x.2 = coefR ys x.2 := if_neg (h x (List.mem_cons_self ..))
    rw [this]
theorem lit0 {n : Int} (h : litB n = true) : n ≠ 0 := (litB_iff.1 h).1
theorem prs_loss : ∀ (k : Nat) (xs ys : List (Int × Int)), xs.length + ys.length ≤ k → srt xs → srt ys → losP (prs xs ys) = losR xs ys := by
  intro k
  induction k with
  | zero =>
    intro xs ys h _ _
    have h1 : xs = [] := List.length_eq_zero_iff.1 (by omega)
    have h2 : ys = [] := List.length_eq_zero_iff.1 (by omega)
    subst h1 h2
    rfl
  | succ k ih =>
    intro xs ys h hs hs'
    cases xs with
    | nil =>
      cases ys with
      | nil => rfl
      | cons y ys =>
        rw [prs_right]
        simp only [List.length_cons, List.length_nil] at h
        have e := ih [] ys (by simp; omega) hs hs'.2.2
        have h0 := lit0 hs'.1.1
        show los0 ((0, 0), y) + losP (prs [] ys) = 0
        rw [e]
        have : los0 ((0, 0), y) = 0 := if_neg (fun e => h0 e.symm)
        rw [this]
        rfl
    | cons x xs =>
      have hx0 := lit0 hs.1.1
      have hx1 := hs.1.2.1
      cases ys with
      | nil =>
        rw [prs_left]
        simp only [List.length_cons, List.length_nil] at h
        have e := ih xs [] (by simp; omega) hs.2.2 hs'
        show los0 (x, (0, 0)) + losP (prs xs []) = max0 (x.1 - 0) + losR xs []
        rw [e]
        have h1 : los0 (x, (0, 0)) = x.1 := if_neg hx0
        have h2 : max0 (x.1 - 0) = x.1 := by unfold max0; rw [if_neg (by omega)]; omega
        rw [h1, h2]
      | cons y ys =>
        simp only [List.length_cons] at h
        rcases Int.lt_trichotomy (ab x.2) (ab y.2) with hlt | heq | hgt
        · rw [prs_lt hlt]
          have e := ih xs (y :: ys) (by simp; omega) hs.2.2 hs'
          show los0 (x, (0, 0)) + losP (prs xs (y :: ys)) = max0 (x.1 - coefR (y :: ys) x.2) + losR xs (y :: ys)
          rw [e]
          have h1 : los0 (x, (0, 0)) = x.1 := if_neg hx0
          have h3 : coefR (y :: ys) x.2 = 0 := coefR_none fun z hz e2 => by
            rcases List.mem_cons.1 hz with rfl | hz
            · rw [e2] at hlt; omega
            · have := hs'.2.1 z hz
              rw [e2] at this
              omega
          have h2 : max0 (x.1 - 0) = x.1 := by unfold max0; rw [if_neg (by omega)]; omega
          rw [h1, h3, h2]
        · rw [prs_eq heq]
          have e := ih xs ys (by omega) hs.2.2 hs'.2.2
          show los0 (x, y) + losP (prs xs ys) = max0 (x.1 - coefR (y :: ys) x.2) + losR xs (y :: ys)
          rw [e, losR_skip (xs := xs) (ys := ys) (y := y) (fun z hz e => by have := hs.2.1 z hz; rw [← e] at this; omega)]
          by_cases hl : x.2 = y.2
          · have h1 : los0 (x, y) = max0 (x.1 - y.1) := if_pos hl
            have h2 : coefR (y :: ys) x.2 = y.1 := if_pos hl.symm
            rw [h1, h2]
          · have h1 : los0 (x, y) = x.1 := if_neg hl
            have h2 : coefR (y :: ys) x.2 = coefR ys x.2 := if_neg (fun e => hl e.symm)
            have h3 : coefR ys x.2 = 0 := coefR_none fun z hz e => by
              have := hs'.2.1 z hz
              rw [e] at this
              omega
            have h4 : max0 (x.1 - 0) = x.1 := by unfold max0; rw [if_neg (by omega)]; omega
            rw [h1, h2, h3, h4]
        · rw [prs_gt hgt]
          have e := ih (x :: xs) ys (by simp; omega) hs hs'.2.2
          have hy0 := lit0 hs'.1.1
          show los0 ((0, 0), y) + losP (prs (x :: xs) ys) = losR (x :: xs) (y :: ys)
          rw [e, losR_skip (xs := x :: xs) (ys := ys) (y := y) (fun z hz e2 => by
            rcases List.mem_cons.1 hz with rfl | hz
            · rw [e2] at hgt; omega
            · have := hs.2.1 z hz
              rw [← e2] at this
              omega)]
          have : los0 ((0, 0), y) = 0 := if_neg (fun e => hy0 e.symm)
          rw [this]
          omega

theorem mrg_mem : ∀ (k : Nat) (xs ys : List (Int × Int)) (p : (Int × Int) × (Int × Int)), p ∈ mrg k xs ys → (p.1 ∈ xs ∨ p.1 = (0, 0)) ∧ (p.2 ∈ ys ∨ p.2 = (0, 0)) := by
  intro k
  induction k with
  | zero => intro xs ys p hp; cases hp
  | succ k ih =>
    intro xs ys p hp
    cases xs with
    | nil =>
      cases ys with
      | nil => cases hp
      | cons y ys =>
        rcases List.mem_cons.1 hp with rfl | hp
        · exact ⟨.inr rfl, .inl (List.mem_cons_self ..)⟩
        · obtain ⟨h1, h2⟩ := ih _ _ p hp
          exact ⟨h1, h2.imp (List.mem_cons_of_mem _) id⟩
    | cons x xs =>
      cases ys with
      | nil =>
        rcases List.mem_cons.1 hp with rfl | hp
        · exact ⟨.inl (List.mem_cons_self ..), .inr rfl⟩
        · obtain ⟨h1, h2⟩ := ih _ _ p hp
          exact ⟨h1.imp (List.mem_cons_of_mem _) id, h2⟩
      | cons y ys =>
        simp only [mrg] at hp
        split at hp
        · rcases List.mem_cons.1 hp with rfl | hp
          · exact ⟨.inl (List.mem_cons_self ..), .inr rfl⟩
          · obtain ⟨h1, h2⟩ := ih _ _ p hp
            exact ⟨h1.imp (List.mem_cons_of_mem _) id, h2⟩
        · split at hp
          · rcases List.mem_cons.1 hp with rfl | hp
            · exact ⟨.inr rfl, .inl (List.mem_cons_self ..)⟩
            · obtain ⟨h1, h2⟩ := ih _ _ p hp
              exact ⟨h1, h2.imp (List.mem_cons_of_mem _) id⟩
          · rcases List.mem_cons.1 hp with rfl | hp
            · exact ⟨.inl (List.mem_cons_self ..), .inl (List.mem_cons_self ..)⟩
            · obtain ⟨h1, h2⟩ := ih _ _ p hp
              exact ⟨h1.imp (List.mem_cons_of_mem _) id, h2.imp (List.mem_cons_of_mem _) id⟩
theorem mrg_len : ∀ (k : Nat) (xs ys : List (Int × Int)), (mrg k xs ys).length ≤ k := by
  intro k
  induction k with
  | zero => intro xs ys; exact Nat.le_refl _
  | succ k ih =>
    intro xs ys
    cases xs with
    | nil =>
      cases ys with
      | nil => exact Nat.zero_le _
      | cons y ys => exact Nat.succ_le_succ (ih _ _)
    | cons x xs =>
      cases ys with
      | nil => exact Nat.succ_le_succ (ih _ _)
      | cons y ys =>
        simp only [mrg]
        split
        · exact Nat.succ_le_succ (ih _ _)
        · split <;> exact Nat.succ_le_succ (ih _ _)
/-- Of a pair: both coefficients are between 0 and 1000. -/
def pairOk (p : (Int × Int) × (Int × Int)) : Prop := (0 ≤ p.1.1 ∧ p.1.1 ≤ 1000) ∧ (0 ≤ p.2.1 ∧ p.2.1 ≤ 1000)
theorem prs_ok {xs ys : List (Int × Int)} (h : srt xs) (h' : srt ys) : ∀ p ∈ prs xs ys, pairOk p := by
  intro p hp
  obtain ⟨h1, h2⟩ := mrg_mem _ _ _ p hp
  constructor
  · rcases h1 with h1 | h1
    · have := h.all _ h1
      unfold rowOk at this
      omega
    · rw [h1]; exact ⟨by decide, by decide⟩
  · rcases h2 with h2 | h2
    · have := h'.all _ h2
      unfold rowOk at this
      omega
    · rw [h2]; exact ⟨by decide, by decide⟩
theorem lst_len (c l : Nat → Int) (i m : Nat) : (lst c l i m).length = m := by
  induction m generalizing i with
  | zero => rfl
  | succ m ih => simp [lst, ih]
theorem lst_mem {c l : Nat → Int} {i m : Nat} : ∀ x ∈ lst c l i m, ∃ j, i ≤ j ∧ j < i + m ∧ x = (c j, l j) := by
  induction m generalizing i with
  | zero => intro x hx; cases hx
  | succ m ih =>
    intro x hx
    rcases List.mem_cons.1 hx with rfl | hx
    · exact ⟨i, Nat.le_refl _, by omega, rfl⟩
    · obtain ⟨j, h1, h2, e⟩ := ih x hx
      exact ⟨j, by omega, by omega, e⟩
theorem mono_of {n : Nat} {c l : Nat → Int} (h : vtB c l n = true) : ∀ j i, i < j → j < n → ab (l i) < ab (l j) := by
  intro j
  induction j with
  | zero => intro i hi; omega
  | succ j ih =>
    intro i hi hj
    have h1 := vtB_at h hj
    have h2 : ab (l j) < ab (l (j + 1)) := by simp [okAt] at h1; exact h1.2
    by_cases e : i = j
    · subst e; exact h2
    · have := ih i (by omega) (by omega)
      omega
theorem srt_lst {n : Nat} {c l : Nat → Int} (h : vtB c l n = true) : ∀ (m i : Nat), i + m = n → srt (lst c l i m) := by
  intro m
  induction m with
  | zero => intro i _; trivial
  | succ m ih =>
    intro i hi
    have h1 := vtB_at h (show i < n by omega)
    refine ⟨⟨okAt_lit h1, okAt_coef h1⟩, fun z hz => ?_, ih (i + 1) (by omega)⟩
    obtain ⟨j, h2, h3, rfl⟩ := lst_mem z hz
    exact mono_of h j i (by omega) (by omega)
theorem srt_valid {n : Nat} {c l : Nat → Int} {bd : Int} (h : validB n c l bd = true) : srt (lst c l 0 n) := by
  unfold validB at h
  rw [Bool.and_eq_true] at h
  exact srt_lst h.1 n 0 (by omega)
theorem losR_bnd {xs ys : List (Int × Int)} (h : srt xs) (h' : srt ys) : 0 ≤ losR xs ys ∧ losR xs ys ≤ 1000 * (xs.length : Int) := by
  induction xs with
  | nil => exact ⟨Int.le_refl _, by simp [losR]⟩
  | cons x xs ih =>
    obtain ⟨h1, h2⟩ := ih h.2.2
    have h3 := h.1.2
    have h4 : 0 ≤ coefR ys x.2 := by
      have key : ∀ ys : List (Int × Int), srt ys → 0 ≤ coefR ys x.2 := by
        intro ys
        induction ys with
        | nil => intro _; exact Int.le_refl _
        | cons y ys ih =>
          intro hy
          unfold coefR
          split
          · have := hy.1.2.1; omega
          · exact ih hy.2.2
      exact key ys h'
    unfold losR max0
    simp only [List.length_cons]
    split <;> omega
end Go.Proofs.Ytaghnjkpanjioaa

namespace Go.Proofs.Ytaghnjkpanjioaa
open Go.ChangeShapes Go.WideShapes Go.ChangeAt Go.RowKit Go.Shelf

/-- The sum of the terms of one variable, and what is cancelled. -/
def addT (x y : Int × Int) : (Int × Int) × Int :=
  if x.1 < y.1 then (if y.2 = -x.2 then ((y.1 - x.1, y.2), x.1) else ((y.1 + x.1, y.2), 0))
  else (if x.2 = -y.2 then ((x.1 - y.1, x.2), y.1) else ((x.1 + y.1, x.2), 0))
/-- Of a pair: coefficients and literals are in their bounds. -/
def pairIn (p : (Int × Int) × (Int × Int)) : Prop := (0 ≤ p.1.1 ∧ p.1.1 ≤ 1000 ∧ -12 ≤ p.1.2 ∧ p.1.2 ≤ 12) ∧ (0 ≤ p.2.1 ∧ p.2.1 ≤ 1000 ∧ -12 ≤ p.2.2 ∧ p.2.2 ≤ 12)

/-- What the walk knows behind the first statement: two blocks of the call's own. -/
def AtT (w : World) (x1 x2 y1 y2 h1 h2 k1 k2 : Int) (s6 s7 : Value) (wx : World) : Prop :=
  ∃ H L : Nat, s6 = .pointer (some ⟨H, 0, none⟩) ∧ s7 = .pointer (some ⟨L, 0, none⟩) ∧ H ≠ L ∧ w.heap.size + 1 + 1 < H ∧ w.heap.size + 1 + 1 < L ∧
    Cel wx H 0 (.int .i64 h1) ∧ Cel wx H 1 (.int .i64 h2) ∧ Cel wx L 0 (.int .i64 k1) ∧ Cel wx L 1 (.int .i64 k2) ∧
    Cel wx w.heap.size 0 (.int .i64 x1) ∧ Cel wx w.heap.size 1 (.int .i64 x2) ∧ Cel wx (w.heap.size + 1) 0 (.int .i64 y1) ∧ Cel wx (w.heap.size + 1) 1 (.int .i64 y2) ∧
    Cel wx (w.heap.size + 1 + 1) 0 (.int .i64 0) ∧ Cel wx (w.heap.size + 1 + 1) 1 (.int .i64 0) ∧ Below w.heap.size w wx

set_option maxRecDepth 100000 in
set_option maxHeartbeats 3200000 in
theorem addTerms_any (x1 x2 y1 y2 : Int) (w : World) (h : pairIn ((x1, x2), (y1, y2))) :
    Calls Try.prog 169 #[.agg #[.int .i64 x1, .int .i64 x2], .agg #[.int .i64 y1, .int .i64 y2]] w fun e w' => e = .returned (.tuple #[.agg #[.int .i64 (addT (x1, x2) (y1, y2)).1.1, .int .i64 (addT (x1, x2) (y1, y2)).1.2], .int .i64 (addT (x1, x2) (y1, y2)).2]) ∧ Below w.heap.size w w' := by
  obtain ⟨⟨h1, h2, h3, h4⟩, h5, h6, h7, h8⟩ := h
  dsimp only at h1 h2 h3 h4 h5 h6 h7 h8
  go_enter Try.func169, Try.ntmps169
  go_upto_region 1 with fail
  have c0 : Cel (((w.alloc (.cells #[.int .i64 x1, .int .i64 x2] 38)).alloc (.cells #[.int .i64 y1, .int .i64 y2] 38)).alloc (.cells #[.int .i64 0, .int .i64 0] 38)) w.heap.size 0 (.int .i64 x1) := ⟨by go_simp, by go_simp⟩
  have c1 : Cel (((w.alloc (.cells #[.int .i64 x1, .int .i64 x2] 38)).alloc (.cells #[.int .i64 y1, .int .i64 y2] 38)).alloc (.cells #[.int .i64 0, .int .i64 0] 38)) w.heap.size 1 (.int .i64 x2) := ⟨by go_simp, by go_simp⟩
  have c2 : Cel (((w.alloc (.cells #[.int .i64 x1, .int .i64 x2] 38)).alloc (.cells #[.int .i64 y1, .int .i64 y2] 38)).alloc (.cells #[.int .i64 0, .int .i64 0] 38)) (w.heap.size + 1) 0 (.int .i64 y1) := ⟨by go_simp, by go_simp⟩
  have c3 : Cel (((w.alloc (.cells #[.int .i64 x1, .int .i64 x2] 38)).alloc (.cells #[.int .i64 y1, .int .i64 y2] 38)).alloc (.cells #[.int .i64 0, .int .i64 0] 38)) (w.heap.size + 1) 1 (.int .i64 y2) := ⟨by go_simp, by go_simp⟩
  have c4 : Cel (((w.alloc (.cells #[.int .i64 x1, .int .i64 x2] 38)).alloc (.cells #[.int .i64 y1, .int .i64 y2] 38)).alloc (.cells #[.int .i64 0, .int .i64 0] 38)) (w.heap.size + 1 + 1) 0 (.int .i64 0) := ⟨by go_simp, by go_simp⟩
  have c5 : Cel (((w.alloc (.cells #[.int .i64 x1, .int .i64 x2] 38)).alloc (.cells #[.int .i64 y1, .int .i64 y2] 38)).alloc (.cells #[.int .i64 0, .int .i64 0] 38)) (w.heap.size + 1 + 1) 1 (.int .i64 0) := ⟨by go_simp, by go_simp⟩
  have hb0 : Below w.heap.size w (((w.alloc (.cells #[.int .i64 x1, .int .i64 x2] 38)).alloc (.cells #[.int .i64 y1, .int .i64 y2] 38)).alloc (.cells #[.int .i64 0, .int .i64 0] 38)) := bl_alloc (bl_alloc (bl_alloc (Below.refl _ _) _) _) _
  generalize (((w.alloc (.cells #[.int .i64 x1, .int .i64 x2] 38)).alloc (.cells #[.int .i64 y1, .int .i64 y2] 38)).alloc (.cells #[.int .i64 0, .int .i64 0] 38)) = W at *
  have z2 : w.heap.size + 1 + 1 < W.heap.size := c4.lt
  have z1 : w.heap.size + 1 < W.heap.size := by omega
  have z0 : w.heap.size < W.heap.size := by omega
  go_cut [6, 7] (fun s6 s7 wx => AtT w x1 x2 y1 y2 x1 x2 y1 y2 s6 s7 wx)
  case first =>
    have C0 := Lib.hid c0
    have C1 := Lib.hid c1
    have C2 := Lib.hid c2
    have C3 := Lib.hid c3
    have C4 := Lib.hid c4
    have C5 := Lib.hid c5
    have HB := Lib.hid hb0
    obtain ⟨a0, -⟩ := c0
    obtain ⟨a1, -⟩ := c1
    obtain ⟨a2, -⟩ := c2
    obtain ⟨a3, -⟩ := c3
    clear c4 c5 hb0
    go_region_held3 (fun w' => w'.cell? ⟨w.heap.size, 0, none⟩ = some (.int .i64 x1) ∧ w'.cell? ⟨w.heap.size, 1, none⟩ = some (.int .i64 x2) ∧ w'.cell? ⟨w.heap.size + 1, 0, none⟩ = some (.int .i64 y1) ∧ w'.cell? ⟨w.heap.size + 1, 1, none⟩ = some (.int .i64 y2)) (go_keep)
      (fail)
    all_goals go_wp2_with fail
    all_goals go_meet
    · have hal : Below W.heap.size W ((W.alloc (.cells #[.int .i64 x1, .int .i64 x2] 38)).alloc (.cells #[.int .i64 y1, .int .i64 y2] 38)).drew := (bl_alloc (bl_alloc (Below.refl _ _) _) _).drew
      exact ⟨_, _, rfl, rfl, by omega, z2, by omega, ⟨by go_simp, by go_simp⟩, ⟨by go_simp, by go_simp⟩, ⟨by go_simp, by go_simp⟩, ⟨by go_simp, by go_simp⟩, C0.out.below hal, C1.out.below hal, C2.out.below hal, C3.out.below hal, C4.out.below hal, C5.out.below hal, bl_trans HB.out hal⟩
    · have hal : Below W.heap.size W ((W.alloc (.cells #[.int .i64 y1, .int .i64 y2] 38)).alloc (.cells #[.int .i64 x1, .int .i64 x2] 38)).drew := (bl_alloc (bl_alloc (Below.refl _ _) _) _).drew
      exact ⟨_, _, rfl, rfl, by omega, by omega, z2, ⟨by go_simp, by go_simp⟩, ⟨by go_simp, by go_simp⟩, ⟨by go_simp, by go_simp⟩, ⟨by go_simp, by go_simp⟩, C0.out.below hal, C1.out.below hal, C2.out.below hal, C3.out.below hal, C4.out.below hal, C5.out.below hal, bl_trans HB.out hal⟩
  case rest =>
    obtain ⟨H, L, rfl, rfl, hne, zH, zL, k0, k1, k2, k3, c0, c1, c2, c3, c4, c5, hb⟩ := hcut
    have hne' : ¬ L = H := fun e => hne e.symm
    have K0 := Lib.hid k0
    have K1 := Lib.hid k1
    have K2 := Lib.hid k2
    have K3 := Lib.hid k3
    have C4 := Lib.hid c4
    have C5 := Lib.hid c5
    have HB := Lib.hid hb
    have zw : w.heap.size < wc.heap.size := c0.lt
    obtain ⟨k0, kf0⟩ := k0
    obtain ⟨k1, kf1⟩ := k1
    obtain ⟨k2, kf2⟩ := k2
    obtain ⟨k3, kf3⟩ := k3
    obtain ⟨a0, -⟩ := c0
    obtain ⟨a1, -⟩ := c1
    obtain ⟨a2, -⟩ := c2
    obtain ⟨a3, -⟩ := c3
    obtain ⟨r0, f0⟩ := c4
    obtain ⟨r1, f1⟩ := c5
    have n1 : ¬ H = w.heap.size := by omega
    have n2 : ¬ L = w.heap.size := by omega
    have n3 : ¬ H = w.heap.size + 1 := by omega
    have n4 : ¬ L = w.heap.size + 1 := by omega
    have n5 : ¬ H = w.heap.size + 1 + 1 := by omega
    have n6 : ¬ L = w.heap.size + 1 + 1 := by omega
    have n7 : ¬ w.heap.size + 1 + 1 = H := by omega
    have n8 : ¬ w.heap.size + 1 + 1 = L := by omega
    have hw1 : IntKind.i64.wrap (y1 - x1) = y1 - x1 := IntWalk.i64_in _ (by omega)
    have hw2 : IntKind.i64.wrap (x1 - y1) = x1 - y1 := IntWalk.i64_in _ (by omega)
    clear hb
    by_cases hlt : x1 < y1
    · go_wp2_with fail
      go_region_held3 (fun w' => w'.cell? ⟨w.heap.size, 0, none⟩ = some (.int .i64 x1) ∧ w'.cell? ⟨w.heap.size, 1, none⟩ = some (.int .i64 x2) ∧ w'.cell? ⟨w.heap.size + 1, 0, none⟩ = some (.int .i64 y1) ∧ w'.cell? ⟨w.heap.size + 1, 1, none⟩ = some (.int .i64 y2)) (go_keep)
        (fail)
      have m0 : Cel (((((wc.setCell ⟨H, 0, none⟩ (.int .i64 y1)).setCell ⟨H, 1, none⟩ (.int .i64 y2)).setCell ⟨L, 0, none⟩ (.int .i64 x1)).setCell ⟨L, 1, none⟩ (.int .i64 x2)).drew) H 0 (.int .i64 y1) := Cel.same ((((K0.out.put (u := .int .i64 y1)).set (by first | (right; decide) | (left; omega))).set (by first | (right; decide) | (left; omega))).set (by first | (right; decide) | (left; omega))) rfl
      have m1 : Cel (((((wc.setCell ⟨H, 0, none⟩ (.int .i64 y1)).setCell ⟨H, 1, none⟩ (.int .i64 y2)).setCell ⟨L, 0, none⟩ (.int .i64 x1)).setCell ⟨L, 1, none⟩ (.int .i64 x2)).drew) H 1 (.int .i64 y2) := Cel.same ((((K1.out.set (by first | (right; decide) | (left; omega))).put (u := .int .i64 y2)).set (by first | (right; decide) | (left; omega))).set (by first | (right; decide) | (left; omega))) rfl
      have m2 : Cel (((((wc.setCell ⟨H, 0, none⟩ (.int .i64 y1)).setCell ⟨H, 1, none⟩ (.int .i64 y2)).setCell ⟨L, 0, none⟩ (.int .i64 x1)).setCell ⟨L, 1, none⟩ (.int .i64 x2)).drew) L 0 (.int .i64 x1) := Cel.same ((((K2.out.set (by first | (right; decide) | (left; omega))).set (by first | (right; decide) | (left; omega))).put (u := .int .i64 x1)).set (by first | (right; decide) | (left; omega))) rfl
      have m3 : Cel (((((wc.setCell ⟨H, 0, none⟩ (.int .i64 y1)).setCell ⟨H, 1, none⟩ (.int .i64 y2)).setCell ⟨L, 0, none⟩ (.int .i64 x1)).setCell ⟨L, 1, none⟩ (.int .i64 x2)).drew) L 1 (.int .i64 x2) := Cel.same ((((K3.out.set (by first | (right; decide) | (left; omega))).set (by first | (right; decide) | (left; omega))).set (by first | (right; decide) | (left; omega))).put (u := .int .i64 x2)) rfl
      have m4 : Cel (((((wc.setCell ⟨H, 0, none⟩ (.int .i64 y1)).setCell ⟨H, 1, none⟩ (.int .i64 y2)).setCell ⟨L, 0, none⟩ (.int .i64 x1)).setCell ⟨L, 1, none⟩ (.int .i64 x2)).drew) (w.heap.size + 1 + 1) 0 (.int .i64 0) := Cel.same ((((C4.out.set (by first | (right; decide) | (left; omega))).set (by first | (right; decide) | (left; omega))).set (by first | (right; decide) | (left; omega))).set (by first | (right; decide) | (left; omega))) rfl
      have m5 : Cel (((((wc.setCell ⟨H, 0, none⟩ (.int .i64 y1)).setCell ⟨H, 1, none⟩ (.int .i64 y2)).setCell ⟨L, 0, none⟩ (.int .i64 x1)).setCell ⟨L, 1, none⟩ (.int .i64 x2)).drew) (w.heap.size + 1 + 1) 1 (.int .i64 0) := Cel.same ((((C5.out.set (by first | (right; decide) | (left; omega))).set (by first | (right; decide) | (left; omega))).set (by first | (right; decide) | (left; omega))).set (by first | (right; decide) | (left; omega))) rfl
      have HBX : Hid (Below w.heap.size w (((((wc.setCell ⟨H, 0, none⟩ (.int .i64 y1)).setCell ⟨H, 1, none⟩ (.int .i64 y2)).setCell ⟨L, 0, none⟩ (.int .i64 x1)).setCell ⟨L, 1, none⟩ (.int .i64 x2)).drew)) := Lib.hid (((((HB.out.setCell (by show w.heap.size ≤ H; omega) _).setCell (by show w.heap.size ≤ H; omega) _).setCell (by show w.heap.size ≤ L; omega) _).setCell (by show w.heap.size ≤ L; omega) _).drew)
      clear HB K0 K1 K2 K3 C4 C5 k0 k1 k2 k3 kf0 kf1 kf2 kf3 r0 r1 f0 f1 a0 a1 a2 a3 zw
      have HB := HBX
      clear HBX
      generalize ((((wc.setCell ⟨H, 0, none⟩ (.int .i64 y1)).setCell ⟨H, 1, none⟩ (.int .i64 y2)).setCell ⟨L, 0, none⟩ (.int .i64 x1)).setCell ⟨L, 1, none⟩ (.int .i64 x2)).drew = X at *
      obtain ⟨k0, kf0⟩ := m0
      obtain ⟨k1, kf1⟩ := m1
      obtain ⟨k2, kf2⟩ := m2
      obtain ⟨k3, kf3⟩ := m3
      obtain ⟨r0, f0⟩ := m4
      obtain ⟨r1, f1⟩ := m5
      by_cases hl : y2 = -x2
      · have HT := Lib.hid (show addT (x1, x2) (y1, y2) = (((y1 - x1), y2), x1) from by
          unfold addT
          rw [if_pos hlt, if_pos hl])
        have hq : (y2 == -x2) = true := by simp [hl]
        clear hl
        go_wp2_with fail
        go_region_held3 (fun w' => w'.cell? ⟨H, 0, none⟩ = some (.int .i64 y1) ∧ w'.cell? ⟨H, 1, none⟩ = some (.int .i64 y2) ∧ w'.cell? ⟨L, 0, none⟩ = some (.int .i64 x1) ∧ w'.cell? ⟨L, 1, none⟩ = some (.int .i64 x2)) (go_keep)
          (fail)
        all_goals
          go_wp2
          refine bodyPost_ret (v := .tuple #[.agg #[.int .i64 (y1 - x1), .int .i64 y2], .int .i64 x1]) (by simp [results, Try.results169, go_sem, r0, r1]) rfl ?_
          refine ⟨by rw [HT.out], ?_⟩
          repeat (first | exact HB.out | refine Below.setCell ?_ (by first | (simp; done) | (simp; omega)) _ | refine Below.drew ?_)
      · have HT := Lib.hid (show addT (x1, x2) (y1, y2) = (((y1 + x1), y2), 0) from by
          unfold addT
          rw [if_pos hlt, if_neg hl])
        have hq : (y2 == -x2) = false := by simp [hl]
        clear hl
        go_wp2
        refine bodyPost_ret (v := .tuple #[.agg #[.int .i64 (y1 + x1), .int .i64 y2], .int .i64 0]) (by simp [results, Try.results169, go_sem, r0, r1]) rfl ?_
        refine ⟨by rw [HT.out], ?_⟩
        repeat (first | exact HB.out | refine Below.setCell ?_ (by first | (simp; done) | (simp; omega)) _ | refine Below.drew ?_)
    · by_cases hl : x2 = -y2
      · have HT := Lib.hid (show addT (x1, x2) (y1, y2) = (((x1 - y1), x2), y1) from by
          unfold addT
          rw [if_neg hlt, if_pos hl])
        have hq : (x2 == -y2) = true := by simp [hl]
        clear hl
        go_wp2_with fail
        go_region_held3 (fun w' => w'.cell? ⟨H, 0, none⟩ = some (.int .i64 x1) ∧ w'.cell? ⟨H, 1, none⟩ = some (.int .i64 x2) ∧ w'.cell? ⟨L, 0, none⟩ = some (.int .i64 y1) ∧ w'.cell? ⟨L, 1, none⟩ = some (.int .i64 y2)) (go_keep)
          (fail)
        all_goals
          go_wp2
          refine bodyPost_ret (v := .tuple #[.agg #[.int .i64 (x1 - y1), .int .i64 x2], .int .i64 y1]) (by simp [results, Try.results169, go_sem, r0, r1]) rfl ?_
          refine ⟨by rw [HT.out], ?_⟩
          repeat (first | exact HB.out | refine Below.setCell ?_ (by first | (simp; done) | (simp; omega)) _ | refine Below.drew ?_)
      · have HT := Lib.hid (show addT (x1, x2) (y1, y2) = (((x1 + y1), x2), 0) from by
          unfold addT
          rw [if_neg hlt, if_neg hl])
        have hq : (x2 == -y2) = false := by simp [hl]
        clear hl
        go_wp2
        refine bodyPost_ret (v := .tuple #[.agg #[.int .i64 (x1 + y1), .int .i64 x2], .int .i64 0]) (by simp [results, Try.results169, go_sem, r0, r1]) rfl ?_
        refine ⟨by rw [HT.out], ?_⟩
        repeat (first | exact HB.out | refine Below.setCell ?_ (by first | (simp; done) | (simp; omega)) _ | refine Below.drew ?_)
end Go.Proofs.Ytaghnjkpanjioaa

namespace Go.Proofs.Ytaghnjkpanjioaa
open Go.ChangeShapes Go.WideShapes Go.ChangeAt Go.RowKit Go.Shelf

attribute [local go_sem] Oper.semAt_some

/-- The rows that the pairs leave; the bound behind them, as Go computes it. -/
def addP (p : (Int × Int) × (Int × Int)) : List (Int × Int) := if 0 < (addT p.1 p.2).1.1 then [(addT p.1 p.2).1] else []
def addR (ps : List ((Int × Int) × (Int × Int))) : List (Int × Int) := ps.flatMap addP
def canW (b : Int) (ps : List ((Int × Int) × (Int × Int))) : Int := ps.foldl (fun s p => wrap64 (s - (addT p.1 p.2).2)) b
theorem addR_snoc (pre : List ((Int × Int) × (Int × Int))) (p : (Int × Int) × (Int × Int)) : addR (pre ++ [p]) = addR pre ++ addP p := by simp [addR]
theorem canW_snoc (b : Int) (pre : List ((Int × Int) × (Int × Int))) (p : (Int × Int) × (Int × Int)) : canW b (pre ++ [p]) = wrap64 (canW b pre - (addT p.1 p.2).2) := by simp [canW]
theorem addR_at {ps pre : List ((Int × Int) × (Int × Int))} {p : (Int × Int) × (Int × Int)} (h : pre ++ [p] <+: ps) (hp : 0 < (addT p.1 p.2).1.1) :
    rC (addR ps) (addR pre).length = (addT p.1 p.2).1.1 ∧ rL (addR ps) (addR pre).length = (addT p.1 p.2).1.2 := by
  obtain ⟨t, rfl⟩ := h
  have : addR (pre ++ [p] ++ t) = addR pre ++ ((addT p.1 p.2).1 :: addR t) := by
    unfold addR
    rw [List.flatMap_append, List.flatMap_append]
    simp [addP, hp]
  rw [this]
  simp [rC, rL, List.getD]

theorem prs_in {xs ys : List (Int × Int)} (h : srt xs) (h' : srt ys) : ∀ p ∈ prs xs ys, pairIn p := by
  intro p hp
  obtain ⟨h1, h2⟩ := mrg_mem _ _ _ p hp
  have key : ∀ (zs : List (Int × Int)) (q : Int × Int), srt zs → (q ∈ zs ∨ q = (0, 0)) → 0 ≤ q.1 ∧ q.1 ≤ 1000 ∧ -12 ≤ q.2 ∧ q.2 ≤ 12 := by
    intro zs q hz hq
    rcases hq with hq | rfl
    · obtain ⟨a, b, d⟩ := hz.all q hq
      obtain ⟨_, e, f⟩ := litB_iff.1 a
      omega
    · exact ⟨by decide, by decide, by decide, by decide⟩
  exact ⟨key _ _ h h1, key _ _ h' h2⟩

/-- What the loop's invariant says of the variable that holds the terms: its row lies from B0 on. -/
structure OutF (w : World) (O B0 : Nat) (ks : List (Nat × Nat × Value)) (c l : Nat → Int) (k : Nat) (ov : Value) (wr : World) : Prop where
  o0 : Cel wr O 0 ov
  own : wr.ownsRow B0 38 2 ov k (flat c l k)
  keep : ∀ x ∈ ks, x.1 < O ∧ Cel wr x.1 x.2.1 x.2.2
  bel : Below w.heap.size w wr
  hO : w.heap.size ≤ O
  hB : O < B0
theorem keeps_below {A B : World} (h : Below A.heap.size A B) : KeepsOthers A B := ⟨h.size, fun k _ hk _ => (h.block k (Array.getElem?_eq_some_iff.1 hk).1).trans hk⟩
theorem row_form {w : World} {B : Nat} {e : TypeId} {s : Nat} {v : Value} {n : Nat} {xs : List Value} (h : w.ownsRow B e s v (n + 1) xs) : ∃ g cap, v = .slice (some ⟨g, 0, none⟩) (n + 1) cap := by
  rcases h.2 with ⟨rfl, hn⟩ | ⟨g, cap, cur, rfl, _⟩
  · omega
  · exact ⟨g, cap, rfl⟩
theorem row_cells {w : World} {B : Nat} {e : TypeId} {s : Nat} {v : Value} {n : Nat} {xs : List Value} (h : w.ownsRow B e s v n xs) : ∀ (j : Nat) (o : Obj), v.ownBlock = some j → w.heap[j]? = some o → o.isCells = true := by
  intro j o ej hj
  rcases h.2 with ⟨rfl, _⟩ | ⟨g, cap, cur, rfl, _, hh, _⟩
  · cases ej
  · obtain rfl : g = j := by simpa [Value.ownBlock] using ej
    rw [hh] at hj
    cases hj
    rfl
theorem Mv.grown {K : Nat → Prop} {A B C : World} {row : Option Nat} (h : Mv K A B) (hg : B.grownBy C row) (hr : ∀ r, row = some r → K r) : Mv K A C :=
  ⟨hg.1.trans h.os, hg.2.trans h.tape, hg.3.trans h.output, Nat.le_trans h.size hg.4, fun k hk hn => (hg.5 k (Nat.lt_of_lt_of_le hk h.size) (fun e => hn (hr k e.symm))).trans (h.block k hk hn)⟩
theorem addR_len (ps : List ((Int × Int) × (Int × Int))) : (addR ps).length ≤ ps.length := by
  induction ps with
  | nil => exact Nat.le_refl _
  | cons p ps ih =>
    have : addR (p :: ps) = addP p ++ addR ps := by simp [addR]
    rw [this, List.length_append]
    have h1 : (addP p).length ≤ 1 := by unfold addP; split <;> simp
    simp only [List.length_cons]
    omega
theorem pre_len {c l c' l' : Nat → Int} {N N' : Nat} {pre : List ((Int × Int) × (Int × Int))} {x : (Int × Int) × (Int × Int)} (h : pre ++ [x] <+: prs (lst c l 0 N) (lst c' l' 0 N')) (hN : N ≤ 1048576) (hN' : N' ≤ 1048576) : pre.length ≤ 2097152 := by
  have h1 := h.length_le
  have h2 := mrg_len ((lst c l 0 N).length + (lst c' l' 0 N').length) (lst c l 0 N) (lst c' l' 0 N')
  have h3 : (prs (lst c l 0 N) (lst c' l' 0 N')).length ≤ N + N' := by
    unfold prs
    rw [lst_len, lst_len] at h2 ⊢
    exact h2
  rw [List.length_append] at h1
  omega
theorem row_same {w w' : World} {B : Nat} {e : TypeId} {s : Nat} {v : Value} {n : Nat} {xs : List Value} (h : w.ownsRow B e s v n xs) (hg : ∀ g, v.ownBlock = some g → w'.heap[g]? = w.heap[g]?) : w'.ownsRow B e s v n xs := by
  refine ⟨h.1, ?_⟩
  rcases h.2 with hh | ⟨g, cap, cur, rfl, hge, hh, hr⟩
  · exact .inl hh
  · exact .inr ⟨g, cap, cur, rfl, hge, (hg g rfl).trans hh, hr⟩
section
variable {w : World} {O B0 : Nat} {ks : List (Nat × Nat × Value)} {c l : Nat → Int} {k : Nat} {ov : Value} {A B : World}
theorem OutF.moved (h : OutF w O B0 ks c l k ov A) {K : Nat → Prop} (hm : Mv K A B) (hK : ∀ j, j < O + 1 → ¬ K j) (hg : ∀ g, B0 ≤ g → (∃ o, A.heap[g]? = some o ∧ o.isCells = true) → ¬ K g) : OutF w O B0 ks c l k ov B := by
  refine ⟨h.o0.same (hm.block _ h.o0.lt (hK _ (by omega))), row_same h.own fun g e => ?_, fun x hx => ⟨(h.keep x hx).1, (h.keep x hx).2.same (hm.block _ (h.keep x hx).2.lt (hK _ (by have := (h.keep x hx).1; omega)))⟩, ?_, h.hO, h.hB⟩
  · rcases h.own.2 with ⟨rfl, _⟩ | ⟨g', cap, cur, rfl, hge, hh, _⟩
    · cases e
    · obtain rfl : g' = g := by simpa [Value.ownBlock] using e
      exact hm.block _ (Array.getElem?_eq_some_iff.1 hh).1 (hg _ hge ⟨_, hh, rfl⟩)
  · refine h.bel.trans (hm.below h.bel.size fun j hj => ?_)
    rcases Nat.lt_or_ge j (O + 1) with hlt | hge
    · exact absurd hj (hK j hlt)
    · have := h.hO; omega
theorem OutF.below (h : OutF w O B0 ks c l k ov A) (hb : Below A.heap.size A B) : OutF w O B0 ks c l k ov B :=
  h.moved (K := fun _ => False) (Mv.of_below hb) (fun _ _ hh => hh) (fun _ _ _ hh => hh)
theorem OutF.at_ (h : OutF w O B0 ks c l k ov A) {j o : Nat} {v : Value} (hx : (j, o, v) ∈ ks) : Cel A j o v := (h.keep _ hx).2
/-- The bound's cell written. -/
theorem OutF.setB {ks0 : List (Nat × Nat × Value)} {b : Nat} {u v : Value} (h0 : ∀ x ∈ ks0, x.1 ≠ b) (hb : w.heap.size ≤ b) (h : OutF w O B0 ((b, 0, u) :: ks0) c l k ov A) : OutF w O B0 ((b, 0, v) :: ks0) c l k ov (A.setCell ⟨b, 0, none⟩ v) := by
  have hbk := h.keep (b, 0, u) (List.mem_cons_self ..)
  have hbO : b < O := hbk.1
  have hB := h.hB
  refine ⟨h.o0.set (by omega), ownsRow_setCell_below h.own (by show b < B0; omega) _, fun x hx => ?_, h.bel.setCell (by show w.heap.size ≤ b; omega) _, h.hO, hB⟩
  rcases List.mem_cons.1 hx with rfl | hx
  · exact ⟨hbO, hbk.2.put⟩
  · obtain ⟨h1, h2⟩ := h.keep x (List.mem_cons_of_mem _ hx)
    exact ⟨h1, h2.set (.inl (h0 x hx))⟩
theorem OutF.step {v' : Value} {x y : Int} (h : OutF w O B0 ks c l k ov A) (hx : c k = x) (hy : l k = y) (hown : B.ownsRow B0 38 2 v' (k + 1) (flat c l k ++ [.int .i64 x, .int .i64 y]))
    (hg : A.grownBy B ov.ownBlock) : OutF w O B0 ks c l (k + 1) v' (B.setCell ⟨O, 0, none⟩ v') ∧ B.cell? ⟨O, 0, none⟩ = some ov ∧ B.frozen? ⟨O, 0, none⟩ = false := by
  subst hx hy
  have hO := h.hO
  have hB := h.hB
  have far : ∀ j, j < B0 → some j ≠ ov.ownBlock := fun j hj e => by
    have := (h.own.lt j e.symm).1
    omega
  have cel : ∀ {j o : Nat} {v : Value}, j < B0 → Cel A j o v → Cel B j o v := fun {j o v} hj hc =>
    ⟨hg.cell (a := ⟨j, o, none⟩) hc.1 (far j hj), (hg.frozen_far ⟨j, o, none⟩ hc.lt (far j hj)).trans hc.2⟩
  have o0 := cel hB h.o0
  refine ⟨⟨o0.put, ownsRow_setCell_below hown (by show O < B0; omega) _, fun x hx => ?_, ?_, hO, hB⟩, o0.1, o0.2⟩
  · obtain ⟨h1, h2⟩ := h.keep x hx
    exact ⟨h1, (cel (by omega) h2).set (by omega)⟩
  · refine ((h.bel.grown hg h.bel.size (fun j e => ?_))).setCell (by show w.heap.size ≤ O; omega) _
    have := (h.own.lt j e).1
    omega
end

set_option maxRecDepth 100000 in
set_option maxHeartbeats 3200000 in
theorem addApply_in (n : Nat) (hn : 3 ≤ n) (A A' : Option Addr) (N N' cap cap' : Nat) (hcap : N ≤ cap) (hcap' : N' ≤ cap') (bd bd' : Int) (c l c' l' : Nat → Int) (hN : N ≤ 1048576) (hN' : N' ≤ 1048576) (w : World)
    (hv : validB N c l bd = true) (hv' : validB N' c' l' bd' = true) (hr : Rd w w.heap.size A N c l) (hr' : Rd w w.heap.size A' N' c' l') :
    CallsIn Fence.wide n Try.prog 166 #[.agg #[.slice A N cap, .int .i64 bd, .slice A' N' cap', .int .i64 bd']] w
      (ARes w (addR (prs (lst c l 0 N) (lst c' l' 0 N'))).length (rC (addR (prs (lst c l 0 N) (lst c' l' 0 N')))) (rL (addR (prs (lst c l 0 N) (lst c' l' 0 N')))) (capB (canW (wrap64 (bd + bd')) (prs (lst c l 0 N) (lst c' l' 0 N'))))) := by
  have h1 : 1 ≤ n := by omega
  have Hv := Lib.hid hv
  have Hv' := Lib.hid hv'
  have Hr := Lib.hid hr
  have Hr' := Lib.hid hr'
  clear hv hv' hr hr'
  refine callsIn_of_wp_marks Try.func166 rfl trivial ?_ rfl
  simp only [Try.ntmps166, List.size_toArray, List.length_cons, List.length_nil, Nat.reduceAdd, Nat.reduceSub, Array.replicate_succ, Array.replicate_zero, List.push_toArray, List.append_toArray, List.nil_append, List.cons_append]
  gi_wp2_with fail
  refine ⟨trivial, (callsIn_wide.2 (termPairs_any _ _ _ _ _ _ _)).mono ?_⟩
  rintro e w3 ⟨rfl, hc1, hc2, hb1⟩
  have hb := bl_trans (bl_alloc (bl_alloc (bl_alloc (bl_alloc (Below.refl w.heap.size w) _) _) _) _) hb1
  have HB3 := Lib.hid hb
  have m0 : Cel w3 (w.heap.size + 1) 0 (.slice none 0 0) := ⟨kc hb1 (by go_simp), kf hb1 (by first | (simp; done) | (simp; omega)) (by go_simp)⟩
  have m1 : Cel w3 (w.heap.size + 1) 1 (.int .i64 0) := ⟨kc hb1 (by go_simp), kf hb1 (by first | (simp; done) | (simp; omega)) (by go_simp)⟩
  have m2 : Cel w3 (w.heap.size + 1 + 1) 0 (.int .i64 (wrap64 (bd + bd'))) := ⟨kc hb1 (by go_simp), kf hb1 (by first | (simp; done) | (simp; omega)) (by go_simp)⟩
  have m3 : Cel w3 (w.heap.size + 1 + 1 + 1) 0 (.slice none 0 0) := ⟨kc hb1 (by go_simp), kf hb1 (by first | (simp; done) | (simp; omega)) (by go_simp)⟩
  simp only [World.size_alloc] at hc1 hc2
  have z3 : w.heap.size + 1 + 1 + 1 + 1 + 1 < w3.heap.size := hc2.lt
  have HC1 := Lib.hid hc1
  have HC2 := Lib.hid hc2
  have M0 := Lib.hid m0
  have M1 := Lib.hid m1
  have M2 := Lib.hid m2
  have M3 := Lib.hid m3
  clear hb hb1 hc1 hc2 m0 m1 m2 m3
  gi_wp2_with fail
  have hv0 : Var w3 w.heap.size (w.heap.size + 1 + 1 + 1 + 1) c l 0 N := ⟨A, cap, hcap, HC1.out, by simpa using (Hr.out.below HB3.out)⟩
  have hv0' : Var w3 w.heap.size (w.heap.size + 1 + 1 + 1 + 1 + 1) c' l' 0 N' := ⟨A', cap', hcap', HC2.out, by simpa using (Hr'.out.below HB3.out)⟩
  have hseq := pairs_seq (n - 1) (by omega) w.heap.size (w.heap.size + 1 + 1 + 1 + 1) c l c' l' N N' hN hN' (fun i hi => litAt Hv.out hi) (fun i hi => litAt Hv'.out hi) w3 (by omega) z3 hv0 hv0'
  have Hseq := Lib.hid hseq
  have z4 : w.heap.size ≤ w3.heap.size := HB3.out.size
  clear hseq hv0 hv0'
  refine range_two rfl h1 (gf := 170) (lb := #[.pointer (some ⟨w.heap.size + 1 + 1 + 1 + 1, 0, none⟩), .pointer (some ⟨w.heap.size + 1 + 1 + 1 + 1 + 1, 0, none⟩)]) rfl trivial (enters_of Try.func170 (by kernel_rfl) rfl)
    Hseq.out (Below.refl _ _) z4 (by omega) z3 (fun _ => rfl)
    (fun pre W => ∃ ov, OutF w (w.heap.size + 1 + 1 + 1) w3.heap.size ((w.heap.size + 1 + 1, 0, .int .i64 (canW (wrap64 (bd + bd')) pre)) :: [(w.heap.size + 1, 0, .slice none 0 0), (w.heap.size + 1, 1, .int .i64 0)]) (rC (addR (prs (lst c l 0 N) (lst c' l' 0 N')))) (rL (addR (prs (lst c l 0 N) (lst c' l' 0 N')))) (addR pre).length ov W ∧ w3.heap.size ≤ W.heap.size) ?hI ?h0 ?round ?done
  case h0 =>
    refine ⟨_, ⟨M3.out, World.ownsRow_nil _ _ _ _, fun x hx => ?_, HB3.out, by omega, by omega⟩, Nat.le_refl _⟩
    simp only [List.mem_cons, List.not_mem_nil, or_false] at hx
    rcases hx with rfl | rfl | rfl
    · exact ⟨by dsimp only; omega, M2.out⟩
    · exact ⟨by dsimp only; omega, M0.out⟩
    · exact ⟨by dsimp only; omega, M1.out⟩
  case hI =>
    rintro pre X Y K ⟨ov, hO, hz⟩ hm hK
    refine ⟨ov, hO.moved hm (fun j hj hh => ?_) (fun g hg ⟨o, ho, hoc⟩ hh => ?_), Nat.le_trans hz hm.size⟩
    · rcases hK j hh with h | h | ⟨h, _⟩ <;> omega
    · rcases hK g hh with h | h | ⟨h, o', ho', hoc'⟩
      · omega
      · omega
      · rw [ho] at ho'
        cases ho'
        rw [hoc] at hoc'
        cases hoc'
  case round =>
    rintro l1 pre ⟨⟨p1, p2⟩, ⟨q1, q2⟩⟩ W r hl1 hr1 hrc ⟨ov, hO, hzW⟩ hpre
    have zl : l1 < W.heap.size := (Array.getElem?_eq_some_iff.1 hr1).1
    have hr2 := hr1
    have hrc2 := hrc
    clear hr1 hrc
    dsimp only [enc2]
    gi_wp2
    refine ⟨(KeepsOthers.alloc _ _).trans (KeepsOthers.alloc _ _), fun k hk => ?_, fun o' => ?_⟩
    · exact (Below.heap_alloc _ _ _ (by simp; omega)).trans (Below.heap_alloc _ _ _ (by omega))
    · have hal : Below W.heap.size W ((W.alloc (.cells #[.int .i64 p1, .int .i64 p2] 38)).alloc (.cells #[.int .i64 q1, .int .i64 q2] 38)) := bl_alloc (bl_alloc (Below.refl _ _) _) _
      have hmv : Mv (fun k => k = l1) ((W.alloc (.cells #[.int .i64 p1, .int .i64 p2] 38)).alloc (.cells #[.int .i64 q1, .int .i64 q2] 38)) (((W.alloc (.cells #[.int .i64 p1, .int .i64 p2] 38)).alloc (.cells #[.int .i64 q1, .int .i64 q2] 38)).putObj l1 o') := (Mv.refl (fun k => k = l1) _).putObj (.inl rfl) _
      have y0 : Cel ((W.alloc (.cells #[.int .i64 p1, .int .i64 p2] 38)).alloc (.cells #[.int .i64 q1, .int .i64 q2] 38)) W.heap.size 0 (.int .i64 p1) := ⟨by go_simp, by go_simp⟩
      have y1 : Cel ((W.alloc (.cells #[.int .i64 p1, .int .i64 p2] 38)).alloc (.cells #[.int .i64 q1, .int .i64 q2] 38)) W.heap.size 1 (.int .i64 p2) := ⟨by go_simp, by go_simp⟩
      have y2 : Cel ((W.alloc (.cells #[.int .i64 p1, .int .i64 p2] 38)).alloc (.cells #[.int .i64 q1, .int .i64 q2] 38)) (W.heap.size + 1) 0 (.int .i64 q1) := ⟨by go_simp, by go_simp⟩
      have y3 : Cel ((W.alloc (.cells #[.int .i64 p1, .int .i64 p2] 38)).alloc (.cells #[.int .i64 q1, .int .i64 q2] 38)) (W.heap.size + 1) 1 (.int .i64 q2) := ⟨by go_simp, by go_simp⟩
      replace y0 := y0.same (hmv.block _ y0.lt (by omega))
      replace y1 := y1.same (hmv.block _ y1.lt (by omega))
      replace y2 := y2.same (hmv.block _ y2.lt (by omega))
      replace y3 := y3.same (hmv.block _ y3.lt (by omega))
      have hOX := ((hO.below hal).moved hmv (fun j hj hh => by
        have hh' : j = l1 := hh
        omega) (fun g hg ⟨o, ho, hoc⟩ hh => by
        have hh' : g = l1 := hh
        subst hh'
        have e1 := (hal.block g zl).symm.trans ho
        rw [hr2] at e1
        cases e1
        rw [hrc2] at hoc
        cases hoc))
      have zX := hmv.size
      simp only [World.size_alloc] at zX
      have hpin : pairIn ((p1, p2), (q1, q2)) := prs_in (srt_valid Hv.out) (srt_valid Hv'.out) _ (by
        obtain ⟨t, ht⟩ := hpre
        rw [← ht]
        simp)
      have hat := addR_at hpre
      have Hpre := Lib.hid hpre
      clear hmv hal hO hpre hr2 hrc2
      generalize ((W.alloc (.cells #[.int .i64 p1, .int .i64 p2] 38)).alloc (.cells #[.int .i64 q1, .int .i64 q2] 38)).putObj l1 o' = X at *
      have HOX := Lib.hid hOX
      obtain ⟨y0, -⟩ := y0
      obtain ⟨y1, -⟩ := y1
      obtain ⟨y2, -⟩ := y2
      obtain ⟨y3, -⟩ := y3
      have hcall := addTerms_any p1 p2 q1 q2 X hpin
      have hsn := addR_snoc pre ((p1, p2), (q1, q2))
      have hcw := canW_snoc (wrap64 (bd + bd')) pre ((p1, p2), (q1, q2))
      unfold addP at hsn
      dsimp only at hat hsn hcw
      generalize addT (p1, p2) (q1, q2) = Tr at *
      obtain ⟨⟨t1, t2⟩, tx⟩ := Tr
      dsimp only at hcall hat hsn hcw
      have Hcall := Lib.hid hcall
      have Hat := Lib.hid hat
      have Hsn := Lib.hid hsn
      have Hcw := Lib.hid hcw
      clear hcall hat hsn hcw hOX hpin
      gi_wp2_with fail
      refine ⟨trivial, fun _ => by omega, (CallsIn.inRound l1 (callsIn_wide.2 Hcall.out)).mono ?_⟩
      rintro e w5 ⟨rfl, hb⟩
      have HO5 := Lib.hid (HOX.out.below hb)
      have HB5 := Lib.hid hb
      have z5 := hb.size
      have s0 := (HO5.out.at_ (j := w.heap.size + 1 + 1) (o := 0) (v := .int .i64 (canW (wrap64 (bd + bd')) pre)) (by simp)).1
      have s1 := (HO5.out.at_ (j := w.heap.size + 1 + 1) (o := 0) (v := .int .i64 (canW (wrap64 (bd + bd')) pre)) (by simp)).2
      have o0 := HO5.out.o0.1
      have o1 := HO5.out.o0.2
      have zb : w.heap.size + 1 + 1 < w5.heap.size := by omega
      have zO : w.heap.size + 1 + 1 + 1 < w5.heap.size := by omega
      clear hb HOX Hcall y0 y1 y2 y3
      have low2 : ∀ x ∈ [(w.heap.size + 1, 0, Value.slice none 0 0), (w.heap.size + 1, 1, .int .i64 0)], x.1 ≠ w.heap.size + 1 + 1 := by
        intro x hx
        simp only [List.mem_cons, List.not_mem_nil, or_false] at hx
        rcases hx with rfl | rfl
        all_goals (dsimp only; omega)
      have HMX : Hid (Mv (fun k => k = w.heap.size + 1 + 1 ∨ k = w.heap.size + 1 + 1 + 1 ∨ w3.heap.size ≤ k) X w5) := Lib.hid (Mv.of_below HB5.out)
      have HKX : Hid (KeepsOthers X w5) := Lib.hid (keeps_below HB5.out)
      by_cases hpos : 0 < t1
      · have hsn := Lib.hid (show addR (pre ++ [((p1, p2), (q1, q2))]) = addR pre ++ [(t1, t2)] from by rw [Hsn.out, if_pos hpos])
        obtain ⟨hX, hY⟩ := Hat.out hpos
        have HX := Lib.hid hX
        have HY := Lib.hid hY
        clear hX hY
        have hlen : (addR pre).length ≤ 2097152 := Nat.le_trans (addR_len pre) (pre_len Hpre.out hN hN')
        have Hlen := Lib.hid hlen
        clear hlen
        obtain ⟨i0, hi, hz0, hz1, hz2⟩ := info_parts Try.infoTerm
        have Hi := Lib.hid hi
        have Hz0 := Lib.hid hz0
        have Hz1 := Lib.hid hz1
        have Hz2 := Lib.hid hz2
        clear hi hz0 hz1 hz2
        have HO6 := Lib.hid (HO5.out.setB (v := .int .i64 (wrap64 (canW (wrap64 (bd + bd')) pre - tx))) low2 (by omega))
        gi_wp2_with (gi_at_builtin; refine wpListIn_append_own _ (by rfl) _ _ 29 (by rfl) w3.heap.size 38 i0 _ 2 16 Try.underlying29 Hi.out Hz0.out Hz1.out Hz2.out rfl (by omega) ov (addR pre).length _ (by rfl) (HO6.out.below (bl_alloc (bl_alloc (Below.refl _ _) _) _)).own ⟨w5.heap.size + 1, 0, none⟩ 1 1 [.int .i64 t1, .int .i64 t2] (by rfl) (by rfl) (World.news_of_block (alloc_eq (by simp))) (by simp [Value.oneCell']) (by have := Hlen.out; unfold maxLen; omega) (by have := Hlen.out; omega) (by simp; omega) ?_; intro v' w7 hown' hgrow hnil; obtain ⟨hst, u0, u1⟩ := (HO6.out.below (bl_alloc (bl_alloc (Below.refl _ _) _) _)).step HX.out HY.out hown' hgrow; have HST := Lib.hid hst; have HG := Lib.hid hgrow; obtain ⟨g, cp, rfl⟩ := row_form hown'; clear hst hnil)
        refine ⟨?_, fun k hk => ?_, ?_⟩
        · exact ((((HKX.out.trans (KeepsOthers.setCell _ _ _)).trans (KeepsOthers.alloc _ _)).trans (KeepsOthers.alloc _ _)).trans (KeepsOthers.of_grownBy HG.out (row_cells (HO6.out.below (bl_alloc (bl_alloc (Below.refl _ _) _) _)).own))).trans (KeepsOthers.setCell _ _ _)
        · exact ((((((HMX.out.setCell (.inl (.inl rfl)) _).alloc _).alloc _).grown HG.out (fun r e => .inr (.inr (HO6.out.own.lt r e).1))).setCell (p := ⟨w.heap.size + 1 + 1 + 1, 0, none⟩) (.inl (.inr (.inl rfl))) _)).block k (by omega) (by omega)
        · rw [hsn.out, Hcw.out, List.length_append]
          have hz := HG.out.4
          exact ⟨⟨_, HST.out⟩, by simp [World.setCell] at hz ⊢; omega⟩
      · have hsn := Lib.hid (show addR (pre ++ [((p1, p2), (q1, q2))]) = addR pre from by rw [Hsn.out, if_neg hpos, List.append_nil])
        gi_wp2
        refine ⟨(HKX.out.trans (KeepsOthers.setCell _ _ _)).trans (KeepsOthers.alloc _ _), fun k hk => ?_, ?_⟩
        · exact ((HMX.out.setCell (.inl (.inl rfl)) _).alloc _).block k (by omega) (by omega)
        · rw [hsn.out, Hcw.out]
          exact ⟨⟨ov, (HO5.out.setB low2 (by omega)).below (bl_alloc (Below.refl _ _) _)⟩, by omega⟩
  case done =>
    rintro D W hD ⟨ov, hO, hzW⟩ hdef
    obtain ⟨A2, cap2, rfl, hF⟩ := frs_of_row hO.own
    have HF := Lib.hid (hF.more (B' := w.heap.size + 1 + 1) (by omega))
    have HO := Lib.hid hO.bel
    obtain ⟨o0, o1⟩ := hO.o0
    obtain ⟨s0, -⟩ := hO.at_ (j := w.heap.size + 1 + 1) (o := 0) (v := .int .i64 (canW (wrap64 (bd + bd')) (prs (lst c l 0 N) (lst c' l' 0 N')))) (by simp)
    have hr0 := hO.at_ (j := w.heap.size + 1) (o := 0) (v := .slice none 0 0) (by simp)
    have hr1 := hO.at_ (j := w.heap.size + 1) (o := 1) (v := .int .i64 0) (by simp)
    have R0 := Lib.hid hr0
    have R1 := Lib.hid hr1
    obtain ⟨r0, f0⟩ := hr0
    obtain ⟨r1, f1⟩ := hr1
    have Hdef := Lib.hid hdef
    clear hF hO hdef
    generalize hcw : canW (wrap64 (bd + bd')) (prs (lst c l 0 N) (lst c' l' 0 N')) = cb at *
    generalize hrr : addR (prs (lst c l 0 N) (lst c' l' 0 N')) = R at *
    clear hcw hrr Hseq
    by_cases hneg : cb < 0
    · have hcp := Lib.hid (show capB cb = 0 from if_pos hneg)
      gi_wp2
      have hdX : ((W.setCell ⟨w.heap.size + 1, 0, none⟩ (.slice A2 R.length cap2)).setCell ⟨w.heap.size + 1, 1, none⟩ (.int .i64 0)).heap[D]? = some (.deferred (some [])) := (Below.heap_setCell _ _ _ D (by show D ≠ w.heap.size + 1; omega)).trans ((Below.heap_setCell _ _ _ D (by show D ≠ w.heap.size + 1; omega)).trans Hdef.out)
      have c0 : Cel ((W.setCell ⟨w.heap.size + 1, 0, none⟩ (.slice A2 R.length cap2)).setCell ⟨w.heap.size + 1, 1, none⟩ (.int .i64 0)) (w.heap.size + 1) 0 (.slice A2 R.length cap2) := (R0.out.put).set (.inr (by decide))
      have c1 : Cel ((W.setCell ⟨w.heap.size + 1, 0, none⟩ (.slice A2 R.length cap2)).setCell ⟨w.heap.size + 1, 1, none⟩ (.int .i64 0)) (w.heap.size + 1) 1 (.int .i64 0) := (R1.out.set (.inr (by decide))).put
      have hF2 : Frs ((W.setCell ⟨w.heap.size + 1, 0, none⟩ (.slice A2 R.length cap2)).setCell ⟨w.heap.size + 1, 1, none⟩ (.int .i64 0)) (w.heap.size + 1 + 1) A2 R.length (rC R) (rL R) := (HF.out.far' (by simp) (by simp) _).far' (by simp) (by simp) _
      have hB2 : Below w.heap.size w ((W.setCell ⟨w.heap.size + 1, 0, none⟩ (.slice A2 R.length cap2)).setCell ⟨w.heap.size + 1, 1, none⟩ (.int .i64 0)) := (HO.out.setCell (by simp) _).setCell (by simp) _
      refine ⟨by simp, .inl ⟨_, _, rfl, run_takeDeferred hdX, ?_⟩⟩
      replace c0 := c0.same (W' := ((W.setCell ⟨w.heap.size + 1, 0, none⟩ (.slice A2 R.length cap2)).setCell ⟨w.heap.size + 1, 1, none⟩ (.int .i64 0)).putObj D (.deferred none)) (World.putObj_heap_other (by omega))
      replace c1 := c1.same (W' := ((W.setCell ⟨w.heap.size + 1, 0, none⟩ (.slice A2 R.length cap2)).setCell ⟨w.heap.size + 1, 1, none⟩ (.int .i64 0)).putObj D (.deferred none)) (World.putObj_heap_other (by omega))
      obtain ⟨q0, -⟩ := c0
      obtain ⟨q1, -⟩ := c1
      have hB3 : Below w.heap.size w (((W.setCell ⟨w.heap.size + 1, 0, none⟩ (.slice A2 R.length cap2)).setCell ⟨w.heap.size + 1, 1, none⟩ (.int .i64 0)).putObj D (.deferred none)) := hB2.trans (belowK_b (w := w3) z4 _ D _ _ hD hdX rfl rfl)
      have hF3 : Frs (((W.setCell ⟨w.heap.size + 1, 0, none⟩ (.slice A2 R.length cap2)).setCell ⟨w.heap.size + 1, 1, none⟩ (.int .i64 0)).putObj D (.deferred none)) (w.heap.size + 1 + 1) A2 R.length (rC R) (rL R) := by
        rcases hF2 with h | ⟨G, e, hG, h⟩
        · exact .inl h
        · refine .inr ⟨G, e, hG, h.at_ (World.putObj_heap_other (fun e2 => ?_))⟩
          obtain ⟨cs, hh, _⟩ := h
          rw [e2, hdX] at hh
          cases hh
      refine ⟨.agg #[.slice A2 R.length cap2, .int .i64 0], ?_, ?_⟩
      · simp [results, Try.results166, go_sem, q0, q1]
      · rw [hcp.out]
        exact ⟨A2, cap2, rfl, hF3.more (by omega), hB3⟩
    · have hcp := Lib.hid (show capB cb = cb from if_neg hneg)
      gi_wp2
      have hdX : ((W.setCell ⟨w.heap.size + 1, 0, none⟩ (.slice A2 R.length cap2)).setCell ⟨w.heap.size + 1, 1, none⟩ (.int .i64 cb)).heap[D]? = some (.deferred (some [])) := (Below.heap_setCell _ _ _ D (by show D ≠ w.heap.size + 1; omega)).trans ((Below.heap_setCell _ _ _ D (by show D ≠ w.heap.size + 1; omega)).trans Hdef.out)
      have c0 : Cel ((W.setCell ⟨w.heap.size + 1, 0, none⟩ (.slice A2 R.length cap2)).setCell ⟨w.heap.size + 1, 1, none⟩ (.int .i64 cb)) (w.heap.size + 1) 0 (.slice A2 R.length cap2) := (R0.out.put).set (.inr (by decide))
      have c1 : Cel ((W.setCell ⟨w.heap.size + 1, 0, none⟩ (.slice A2 R.length cap2)).setCell ⟨w.heap.size + 1, 1, none⟩ (.int .i64 cb)) (w.heap.size + 1) 1 (.int .i64 cb) := (R1.out.set (.inr (by decide))).put
      have hF2 : Frs ((W.setCell ⟨w.heap.size + 1, 0, none⟩ (.slice A2 R.length cap2)).setCell ⟨w.heap.size + 1, 1, none⟩ (.int .i64 cb)) (w.heap.size + 1 + 1) A2 R.length (rC R) (rL R) := (HF.out.far' (by simp) (by simp) _).far' (by simp) (by simp) _
      have hB2 : Below w.heap.size w ((W.setCell ⟨w.heap.size + 1, 0, none⟩ (.slice A2 R.length cap2)).setCell ⟨w.heap.size + 1, 1, none⟩ (.int .i64 cb)) := (HO.out.setCell (by simp) _).setCell (by simp) _
      refine ⟨by simp, .inl ⟨_, _, rfl, run_takeDeferred hdX, ?_⟩⟩
      replace c0 := c0.same (W' := ((W.setCell ⟨w.heap.size + 1, 0, none⟩ (.slice A2 R.length cap2)).setCell ⟨w.heap.size + 1, 1, none⟩ (.int .i64 cb)).putObj D (.deferred none)) (World.putObj_heap_other (by omega))
      replace c1 := c1.same (W' := ((W.setCell ⟨w.heap.size + 1, 0, none⟩ (.slice A2 R.length cap2)).setCell ⟨w.heap.size + 1, 1, none⟩ (.int .i64 cb)).putObj D (.deferred none)) (World.putObj_heap_other (by omega))
      obtain ⟨q0, -⟩ := c0
      obtain ⟨q1, -⟩ := c1
      have hB3 : Below w.heap.size w (((W.setCell ⟨w.heap.size + 1, 0, none⟩ (.slice A2 R.length cap2)).setCell ⟨w.heap.size + 1, 1, none⟩ (.int .i64 cb)).putObj D (.deferred none)) := hB2.trans (belowK_b (w := w3) z4 _ D _ _ hD hdX rfl rfl)
      have hF3 : Frs (((W.setCell ⟨w.heap.size + 1, 0, none⟩ (.slice A2 R.length cap2)).setCell ⟨w.heap.size + 1, 1, none⟩ (.int .i64 cb)).putObj D (.deferred none)) (w.heap.size + 1 + 1) A2 R.length (rC R) (rL R) := by
        rcases hF2 with h | ⟨G, e, hG, h⟩
        · exact .inl h
        · refine .inr ⟨G, e, hG, h.at_ (World.putObj_heap_other (fun e2 => ?_))⟩
          obtain ⟨cs, hh, _⟩ := h
          rw [e2, hdX] at hh
          cases hh
      refine ⟨.agg #[.slice A2 R.length cap2, .int .i64 cb], ?_, ?_⟩
      · simp [results, Try.results166, go_sem, q0, q1]
      · rw [hcp.out]
        exact ⟨A2, cap2, rfl, hF3.more (by omega), hB3⟩

theorem ab_lit {n : Int} (h : litB n = true) : 1 ≤ ab n ∧ ab n ≤ 12 := by
  obtain ⟨h0, h1, h2⟩ := litB_iff.1 h
  unfold ab
  split <;> omega
theorem valid_12 {n : Nat} {c l : Nat → Int} {bd : Int} (h : validB n c l bd = true) : n ≤ 12 := by
  unfold validB at h
  rw [Bool.and_eq_true] at h
  have key : ∀ i, i < n → (i : Int) + 1 ≤ ab (l i) := by
    intro i
    induction i with
    | zero => intro hi; have := ab_lit (okAt_lit (vtB_at h.1 hi)); omega
    | succ i ih =>
      intro hi
      have h1 := ih (by omega)
      have h2 := mono_of h.1 (i + 1) i (by omega) hi
      omega
  rcases Nat.eq_zero_or_pos n with h0 | h0
  · omega
  · have h1 := key (n - 1) (by omega)
    have h2 := ab_lit (okAt_lit (vtB_at h.1 (show n - 1 < n by omega)))
    omega

/-- Whether both arguments of an addition are valid. -/
def adRB (N : Nat) (c l : Nat → Int) (bd : Int) (N' : Nat) (c' l' : Nat → Int) (bd' : Int) : Bool := validB N c l bd && validB N' c' l' bd'

set_option maxRecDepth 100000 in
set_option maxHeartbeats 800000 in
theorem addReady_any (A A' : Option Addr) (N N' cap cap' : Nat) (bd bd' : Int) (c l c' l' : Nat → Int) (hN : N ≤ 1048576) (hN' : N' ≤ 1048576) (w : World) (hr : Rd w w.heap.size A N c l) (hr' : Rd w w.heap.size A' N' c' l') :
    Calls Try.prog 167 #[.agg #[.slice A N cap, .int .i64 bd, .slice A' N' cap', .int .i64 bd']] w fun e w' => e = .returned (.bool (adRB N c l bd N' c' l' bd')) ∧ Below w.heap.size w w' := by
  cases hv : validB N c l bd with
  | false =>
    have hR : (adRB N c l bd N' c' l' bd') = false := by unfold adRB; rw [hv]; rfl
    rw [hR]
    have Hv := Lib.hid hv
    clear hv hR
    go_enter Try.func167, Try.ntmps167
    go_wp2_with fail
    refine (implValid_any _ _ _ _ c l _ hN (hr.later (bl_alloc (Below.refl _ _) _))).mono ?_
    rintro e w1 ⟨rfl, hb⟩
    have HB := Lib.hid (bl_trans (bl_alloc (Below.refl w.heap.size w) _) hb)
    clear hb
    rw [Hv.out]
    go_wp2
    go_ret
    exact ⟨rfl, HB.out⟩
  | true =>
    have hR : (adRB N c l bd N' c' l' bd') = validB N' c' l' bd' := by unfold adRB; rw [hv]; rfl
    rw [hR]
    have Hv := Lib.hid hv
    clear hv hR
    go_enter Try.func167, Try.ntmps167
    go_wp2_with fail
    refine (implValid_any _ _ _ _ c l _ hN (hr.later (bl_alloc (Below.refl _ _) _))).mono ?_
    rintro e w1 ⟨rfl, hb⟩
    have HB := Lib.hid (bl_trans (bl_alloc (Below.refl w.heap.size w) _) hb)
    have b0 : w1.cell? ⟨w.heap.size, 2, none⟩ = some (.slice A' N' cap') := kc hb (by go_simp)
    have b1 : w1.cell? ⟨w.heap.size, 3, none⟩ = some (.int .i64 bd') := kc hb (by go_simp)
    clear hb
    rw [Hv.out]
    go_wp2_with fail
    refine (implValid_any _ _ _ _ c' l' _ hN' (hr'.later HB.out)).mono ?_
    rintro e w2 ⟨rfl, hb⟩
    have HB2 := Lib.hid (bl_trans HB.out hb)
    clear hb
    go_wp2
    go_ret
    exact ⟨rfl, HB2.out⟩

theorem implAdd_any (A A' : Option Addr) (N N' cap cap' : Nat) (hcap : N ≤ cap) (hcap' : N' ≤ cap') (bd bd' : Int) (c l c' l' : Nat → Int) (hN : N ≤ 1048576) (hN' : N' ≤ 1048576) (w : World) (hr : Rd w w.heap.size A N c l) (hr' : Rd w w.heap.size A' N' c' l') :
    Calls Try.prog 40 #[.agg #[.slice A N cap, .int .i64 bd], .agg #[.slice A' N' cap', .int .i64 bd']] w (CRes w (infN (adRB N c l bd N' c' l' bd') (addR (prs (lst c l 0 N) (lst c' l' 0 N'))).length (rC (addR (prs (lst c l 0 N) (lst c' l' 0 N')))) (rL (addR (prs (lst c l 0 N) (lst c' l' 0 N')))) (capB (canW (wrap64 (bd + bd')) (prs (lst c l 0 N) (lst c' l' 0 N'))))) (rC (addR (prs (lst c l 0 N) (lst c' l' 0 N')))) (rL (addR (prs (lst c l 0 N) (lst c' l' 0 N')))) (infD (adRB N c l bd N' c' l' bd') (addR (prs (lst c l 0 N) (lst c' l' 0 N'))).length (rC (addR (prs (lst c l 0 N) (lst c' l' 0 N')))) (rL (addR (prs (lst c l 0 N) (lst c' l' 0 N')))) (capB (canW (wrap64 (bd + bd')) (prs (lst c l 0 N) (lst c' l' 0 N'))))) (infB (adRB N c l bd N' c' l' bd') (addR (prs (lst c l 0 N) (lst c' l' 0 N'))).length (rC (addR (prs (lst c l 0 N) (lst c' l' 0 N')))) (rL (addR (prs (lst c l 0 N) (lst c' l' 0 N')))) (capB (canW (wrap64 (bd + bd')) (prs (lst c l 0 N) (lst c' l' 0 N')))))) := by
  have hm1 : ∀ w : World, (method 300 104 (.agg #[.slice A N cap, .int .i64 bd, .slice A' N' cap', .int .i64 bd']) "loop.example/cuttingplanes/impl.ready").run Try.prog w = .ok (167, .agg #[.slice A N cap, .int .i64 bd, .slice A' N' cap', .int .i64 bd']) w := fun _ => by kernel_rfl
  have hm2 : ∀ w : World, (method 300 104 (.agg #[.slice A N cap, .int .i64 bd, .slice A' N' cap', .int .i64 bd']) "loop.example/cuttingplanes/impl.apply").run Try.prog w = .ok (166, .agg #[.slice A N cap, .int .i64 bd, .slice A' N' cap', .int .i64 bd']) w := fun _ => by kernel_rfl
  have e1 := enters_of Try.func167 (by kernel_rfl) rfl
  have e2 := enters_of Try.func166 (by kernel_rfl) rfl
  have HI : Hid (∀ W : World, Below w.heap.size w W → Calls Try.prog 49 #[.iface 104 (.agg #[.slice A N cap, .int .i64 bd, .slice A' N' cap', .int .i64 bd'])] W (CRes W (infN (adRB N c l bd N' c' l' bd') (addR (prs (lst c l 0 N) (lst c' l' 0 N'))).length (rC (addR (prs (lst c l 0 N) (lst c' l' 0 N')))) (rL (addR (prs (lst c l 0 N) (lst c' l' 0 N')))) (capB (canW (wrap64 (bd + bd')) (prs (lst c l 0 N) (lst c' l' 0 N'))))) (rC (addR (prs (lst c l 0 N) (lst c' l' 0 N')))) (rL (addR (prs (lst c l 0 N) (lst c' l' 0 N')))) (infD (adRB N c l bd N' c' l' bd') (addR (prs (lst c l 0 N) (lst c' l' 0 N'))).length (rC (addR (prs (lst c l 0 N) (lst c' l' 0 N')))) (rL (addR (prs (lst c l 0 N) (lst c' l' 0 N')))) (capB (canW (wrap64 (bd + bd')) (prs (lst c l 0 N) (lst c' l' 0 N'))))) (infB (adRB N c l bd N' c' l' bd') (addR (prs (lst c l 0 N) (lst c' l' 0 N'))).length (rC (addR (prs (lst c l 0 N) (lst c' l' 0 N')))) (rL (addR (prs (lst c l 0 N) (lst c' l' 0 N')))) (capB (canW (wrap64 (bd + bd')) (prs (lst c l 0 N) (lst c' l' 0 N'))))))) := Lib.hid (fun W hb => by
    have hrd := fun W' (hb' : Below W.heap.size W W') => addReady_any A A' N N' cap cap' bd bd' c l c' l' hN hN' W' (hr.later (bl_trans hb hb')) (hr'.later (bl_trans hb hb'))
    cases hR : adRB N c l bd N' c' l' bd' with
    | false =>
      rw [hR] at hrd
      exact infer_no 104 (.agg #[.slice A N cap, .int .i64 bd, .slice A' N' cap', .int .i64 bd']) 167 _ _ _ _ W hm1 e1 hrd
    | true =>
      rw [hR] at hrd
      have hv : validB N c l bd = true ∧ validB N' c' l' bd' = true := by simpa [adRB] using hR
      have h12 := valid_12 hv.1
      have h12' := valid_12 hv.2
      have hs : (addR (prs (lst c l 0 N) (lst c' l' 0 N'))).length ≤ 1048576 := by
        have h1 := addR_len (prs (lst c l 0 N) (lst c' l' 0 N'))
        have h2 := mrg_len ((lst c l 0 N).length + (lst c' l' 0 N').length) (lst c l 0 N) (lst c' l' 0 N')
        unfold prs at h1 ⊢
        rw [lst_len, lst_len] at h1 h2 ⊢
        omega
      exact infer_yes 104 (.agg #[.slice A N cap, .int .i64 bd, .slice A' N' cap', .int .i64 bd']) 167 166 _ _ _ _ W hs hm1 hm2 e1 e2 hrd
        (fun W' hb' => (callsIn_wide (n := 6)).1 (addApply_in 6 (by omega) A A' N N' cap cap' hcap hcap' bd bd' c l c' l' hN hN' W' hv.1 hv.2 (hr.later (bl_trans hb hb')) (hr'.later (bl_trans hb hb')))))
  clear hm1 hm2 e1 e2 hr hr'
  go_enter Try.func40, Try.ntmps40
  go_wp2_with fail
  refine (HI.out _ (by repeat (first | exact Below.refl _ _ | refine bl_alloc ?_ _ | refine Below.drew ?_))).mono ?_
  rintro e w1 ⟨A', cap', rfl, hF, hb⟩
  have HF := Lib.hid hF
  have HB := Lib.hid (bl_trans (bl_alloc (bl_alloc (bl_alloc (Below.refl w.heap.size w) _) _) _) hb)
  have r0 : w1.cell? ⟨w.heap.size + 2, 0, none⟩ = some (.slice none 0 0) := kc hb (by go_simp)
  have r1 : w1.cell? ⟨w.heap.size + 2, 1, none⟩ = some (.int .i64 0) := kc hb (by go_simp)
  have f0 : w1.frozen? ⟨w.heap.size + 2, 0, none⟩ = false := kf hb (by simp) (by go_simp)
  have f1 : w1.frozen? ⟨w.heap.size + 2, 1, none⟩ = false := kf hb (by simp) (by go_simp)
  clear hF hb
  go_wp2
  refine bodyPost_ret (v := .tuple #[.agg #[.slice A' (infN (adRB N c l bd N' c' l' bd') (addR (prs (lst c l 0 N) (lst c' l' 0 N'))).length (rC (addR (prs (lst c l 0 N) (lst c' l' 0 N')))) (rL (addR (prs (lst c l 0 N) (lst c' l' 0 N')))) (capB (canW (wrap64 (bd + bd')) (prs (lst c l 0 N) (lst c' l' 0 N'))))) cap', .int .i64 (infD (adRB N c l bd N' c' l' bd') (addR (prs (lst c l 0 N) (lst c' l' 0 N'))).length (rC (addR (prs (lst c l 0 N) (lst c' l' 0 N')))) (rL (addR (prs (lst c l 0 N) (lst c' l' 0 N')))) (capB (canW (wrap64 (bd + bd')) (prs (lst c l 0 N) (lst c' l' 0 N')))))], .bool (infB (adRB N c l bd N' c' l' bd') (addR (prs (lst c l 0 N) (lst c' l' 0 N'))).length (rC (addR (prs (lst c l 0 N) (lst c' l' 0 N')))) (rL (addR (prs (lst c l 0 N) (lst c' l' 0 N')))) (capB (canW (wrap64 (bd + bd')) (prs (lst c l 0 N) (lst c' l' 0 N')))))]) (by simp [results, Try.results40, go_sem, r0, r1]) rfl ?_
  exact ⟨A', cap', rfl, ((HF.out.far' (by first | (simp; done) | (simp; omega)) (by first | (simp; done) | (simp; omega)) _).far' (by first | (simp; done) | (simp; omega)) (by first | (simp; done) | (simp; omega)) _).more (by first | (simp; done) | (simp; omega)), (HB.out.setCell (by first | (simp; done) | (simp; omega)) _).setCell (by first | (simp; done) | (simp; omega)) _⟩
end Go.Proofs.Ytaghnjkpanjioaa

