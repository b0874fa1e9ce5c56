/- The pairs of terms of two constraints, variable by variable, and which list comes first (no claim of its own). Conditions: as each theorem states. -/
import Derived.Test.YtjfcgehmeecnfaaComB
import Derived.StillTailTactics
import Derived.Deep.DeepCutAuto
namespace Go.Proofs.Ytjfcgehmeecnfaa
open Go.ChangeShapes Go.WideShapes Go.ChangeAt Go.RowKit

/-- m rows from place i on. -/
def lst (c l : Nat → Int) : Nat → Nat → List (Int × Int)
  | _, 0 => []
  | i, m + 1 => (c i, l i) :: lst c l (i + 1) m
/-- The pairs, with k rounds to spare. -/
def mrg : Nat → List (Int × Int) → List (Int × Int) → List ((Int × Int) × (Int × Int))
  | 0, _, _ => []
  | _ + 1, [], [] => []
  | k + 1, x :: xs, [] => (x, (0, 0)) :: mrg k xs []
  | k + 1, [], y :: ys => ((0, 0), y) :: mrg k [] ys
  | k + 1, x :: xs, y :: ys => if ab x.2 < ab y.2 then (x, (0, 0)) :: mrg k xs (y :: ys) else if ab y.2 < ab x.2 then ((0, 0), y) :: mrg k (x :: xs) ys else (x, y) :: mrg k xs ys
theorem mrg_more : ∀ (k k' : Nat) (xs ys : List (Int × Int)), xs.length + ys.length ≤ k → xs.length + ys.length ≤ k' → mrg k xs ys = mrg k' xs ys := by
  intro k
  induction k with
  | zero =>
    intro k' xs ys h h'
    have h1 : xs = [] := List.length_eq_zero_iff.1 (by omega)
    have h2 : ys = [] := List.length_eq_zero_iff.1 (by omega)
    subst h1 h2
    cases k' <;> rfl
  | succ k ih =>
    intro k' xs ys h h'
    cases k' with
    | zero =>
      have h1 : xs = [] := List.length_eq_zero_iff.1 (by omega)
      have h2 : ys = [] := List.length_eq_zero_iff.1 (by omega)
      subst h1 h2
      rfl
    | succ k' =>
      cases xs with
      | nil =>
        cases ys with
        | nil => rfl
        | cons y ys =>
          simp at h h'
          show _ :: mrg k [] ys = _ :: mrg k' [] ys
          rw [ih k' [] ys (by simp; omega) (by simp; omega)]
      | cons x xs =>
        cases ys with
        | nil =>
          simp at h h'
          show _ :: mrg k xs [] = _ :: mrg k' xs []
          rw [ih k' xs [] (by simp; omega) (by simp; omega)]
        | cons y ys =>
          simp at h h'
          simp only [mrg]
          rw [ih k' xs (y :: ys) (by simp; omega) (by simp; omega), ih k' (x :: xs) ys (by simp; omega) (by simp; omega), ih k' xs ys (by omega) (by omega)]
def prs (xs ys : List (Int × Int)) : List ((Int × Int) × (Int × Int)) := mrg (xs.length + ys.length) xs ys
theorem prs_left {x : Int × Int} {xs : List (Int × Int)} : prs (x :: xs) [] = (x, (0, 0)) :: prs xs [] := by
  unfold prs
  show mrg (xs.length + 0 + 1) _ _ = _
  rfl
theorem prs_right {y : Int × Int} {ys : List (Int × Int)} : prs [] (y :: ys) = ((0, 0), y) :: prs [] ys := by
  unfold prs
  show mrg (0 + (ys.length + 1)) _ _ = _
  rw [show 0 + (ys.length + 1) = (0 + ys.length) + 1 from rfl]
  rfl
theorem prs_lt {x y : Int × Int} {xs ys : List (Int × Int)} (h : ab x.2 < ab y.2) : prs (x :: xs) (y :: ys) = (x, (0, 0)) :: prs xs (y :: ys) := by
  unfold prs
  rw [show (x :: xs).length + (y :: ys).length = (xs.length + (y :: ys).length) + 1 from by simp; omega]
  simp only [mrg]
  rw [if_pos h]
theorem prs_gt {x y : Int × Int} {xs ys : List (Int × Int)} (h : ab y.2 < ab x.2) : prs (x :: xs) (y :: ys) = ((0, 0), y) :: prs (x :: xs) ys := by
  unfold prs
  rw [show (x :: xs).length + (y :: ys).length = ((x :: xs).length + ys.length) + 1 from by simp; omega]
  simp only [mrg]
  rw [if_neg (by omega), if_pos h]
theorem prs_eq {x y : Int × Int} {xs ys : List (Int × Int)} (h : ab x.2 = ab y.2) : prs (x :: xs) (y :: ys) = (x, y) :: prs xs ys := by
  unfold prs
  rw [show (x :: xs).length + (y :: ys).length = (xs.length + (ys.length + 1)) + 1 from by simp; omega]
  simp only [mrg]
  rw [if_neg (by omega), if_neg (by omega), mrg_more _ (xs.length + ys.length) xs ys (by omega) (by omega)]
theorem prs_nil : prs [] [] = [] := rfl

/-- -1, 0 or 1. -/
def sgnC (x y : Int) : Int := if x < y then -1 else if y < x then 1 else 0
set_option maxHeartbeats 800000 in
theorem cmpInt_any (x y : Int) (w : World) :
    Calls Try.prog 125 #[.int .i64 x, .int .i64 y] w fun e w' => e = .returned (.int .i64 (sgnC x y)) ∧ w = w' := by
  by_cases h1 : x < y
  · go_enter Try.func125, Try.ntmps125
    go_wp2
    go_ret
    exact ⟨ret_int (by unfold sgnC; rw [if_pos h1]), rfl⟩
  · by_cases h2 : y < x
    · go_enter Try.func125, Try.ntmps125
      go_wp2
      go_ret
      exact ⟨ret_int (by unfold sgnC; rw [if_neg (by omega), if_pos h2]), rfl⟩
    · go_enter Try.func125, Try.ntmps125
      go_wp2
      go_ret
      exact ⟨ret_int (by unfold sgnC; rw [if_neg (by omega), if_neg (by omega)]), rfl⟩

/-- Which list comes first: an empty one comes last. -/
def ordC (m : Nat) (l : Nat → Int) (m' : Nat) (l' : Nat → Int) : Int := if m = 0 ∨ m' = 0 then sgnC m' m else sgnC (ab (l 0)) (ab (l' 0))
end Go.Proofs.Ytjfcgehmeecnfaa
