/- The walk of the exact law of AddConstraints, its contracts laid (no claim of its own). Conditions: as each theorem states. -/
import Derived.Test.YtfcmhnbofoohmaaLawAddConstraintsW
import Derived.Test.YtfcmhnbofoohmaaAddN
namespace Go.Proofs.Ytfcmhnbofoohmaa
open Go.ChangeShapes Go.WideShapes Go.ChangeAt Go.RowKit

/-- The sum's numbers, valid or not. -/
def sumR (N : Nat) (c l : Nat → Int) (N' : Nat) (c' l' : Nat → Int) : List (Int × Int) := addR (prs (lst c l 0 N) (lst c' l' 0 N'))
def sumK (N : Nat) (c l : Nat → Int) (bd : Int) (N' : Nat) (c' l' : Nat → Int) (bd' : Int) : Int := capB (canW (wrap64 (bd + bd')) (prs (lst c l 0 N) (lst c' l' 0 N')))

theorem specAdd_any (a a' : Addr) (n n' : Nat) (bd bd' : Int) (c l c' l' : Nat → Int) (hn : n ≤ 1048576) (hn' : n' ≤ 1048576) (w : World) (hr : Rd w w.heap.size (some a) n c l) (hr' : Rd w w.heap.size (some a') n' c' l') :
    Calls Try.prog 17 #[.agg #[.slice (some a) n n, .int .i64 bd], .agg #[.slice (some a') n' n', .int .i64 bd']] w
      (CRes w (infN (adRB n c l bd n' c' l' bd') (sumR n c l n' c' l').length (rC (sumR n c l n' c' l')) (rL (sumR n c l n' c' l')) (sumK n c l bd n' c' l' bd'))
        (rC (sumR n c l n' c' l')) (rL (sumR n c l n' c' l'))
        (infD (adRB n c l bd n' c' l' bd') (sumR n c l n' c' l').length (rC (sumR n c l n' c' l')) (rL (sumR n c l n' c' l')) (sumK n c l bd n' c' l' bd'))
        (infB (adRB n c l bd n' c' l' bd') (sumR n c l n' c' l').length (rC (sumR n c l n' c' l')) (rL (sumR n c l n' c' l')) (sumK n c l bd n' c' l' bd'))) := by
  cases h : adRB n c l bd n' c' l' bd' with
  | true =>
    have hv : validB n c l bd = true ∧ validB n' c' l' bd' = true := by simpa [adRB] using h
    obtain ⟨e1, e2⟩ := sum_same hv.1 hv.2
    obtain ⟨f1, f2, f3⟩ := inf_fit (sumR n c l n' c' l') (canW (wrap64 (bd + bd')) (prs (lst c l 0 n) (lst c' l' 0 n')))
    have k := specAdd_val (some a) (some a') n n' n n' (Lib.hid (fun e => by cases e)) (Lib.hid (fun e => by cases e)) bd bd' c l c' l' (valid_12 hv.1) (valid_12 hv.2) w hr hr' hv.1 hv.2 (wrap64 (bd + bd')) (Lib.hid (IntWalk.i64_left _))
    unfold sumK
    rw [f1, f2, f3]
    rw [← e1, ← e2] at k
    exact k
  | false =>
    have k := specAdd_not (some a) (some a') n n' n n' bd bd' c l c' l' hn hn' w hr hr' h
    have g : infB false (sumR n c l n' c' l').length (rC (sumR n c l n' c' l')) (rL (sumR n c l n' c' l')) (sumK n c l bd n' c' l' bd') = false := rfl
    have g1 : infN false (sumR n c l n' c' l').length (rC (sumR n c l n' c' l')) (rL (sumR n c l n' c' l')) (sumK n c l bd n' c' l' bd') = 0 := by unfold infN; rw [g]; rfl
    have g2 : infD false (sumR n c l n' c' l').length (rC (sumR n c l n' c' l')) (rL (sumR n c l n' c' l')) (sumK n c l bd n' c' l' bd') = 0 := by unfold infD; rw [g]; rfl
    rw [g, g1, g2]
    exact k.mono fun e w' ⟨A, cap, he, _, hb⟩ => ⟨A, cap, he, .inl rfl, hb⟩

theorem sumR_len {n n' : Nat} (c l c' l' : Nat → Int) (bd bd' : Int) (hn : n + n' ≤ 1048576) : infN (adRB n c l bd n' c' l' bd') (sumR n c l n' c' l').length (rC (sumR n c l n' c' l')) (rL (sumR n c l n' c' l')) (sumK n c l bd n' c' l' bd') ≤ 1048576 := by
  refine Nat.le_trans (infN_le _ _ _ _ _) ?_
  have h1 := addR_len (prs (lst c l 0 n) (lst c' l' 0 n'))
  have h2 := mrg_len ((lst c l 0 n).length + (lst c' l' 0 n').length) (lst c l 0 n) (lst c' l' 0 n')
  unfold sumR prs at *
  rw [lst_len, lst_len] at h1 h2 ⊢
  omega

theorem lawAddConstraints_walk (A : Option Addr) (n cap : Nat) (bd : Int) (c l : Nat → Int) (A' : Option Addr) (n' cap' : Nat) (bd' : Int) (c' l' : Nat → Int) (w : World) (hm : n ≤ maxLen) (hr : Rd w w.heap.size A n c l) (hm' : n' ≤ maxLen) (hr' : Rd w w.heap.size A' n' c' l') :
    Calls Try.prog 4 #[.agg #[.slice A n cap, .int .i64 bd], .agg #[.slice A' n' cap', .int .i64 bd']] w fun e w' => e = .returned (.bool true) ∧ Below w.heap.size w w' := by
  by_cases h : n ≤ 1048576
  · by_cases h' : n + n' ≤ 1048576
    · exact lawAddConstraints_ok A A' n n' cap cap' bd bd' c l c' l' _ (rC (sumR n c l n' c' l')) (rL (sumR n c l n' c' l')) _ _ w h' (sumR_len c l c' l' bd bd' h') hr hr'
        (fun a a' W h1 h2 => specAdd_any a a' n n' bd bd' c l c' l' (by omega) (by omega) W h1 h2)
        (fun a a' W h1 h2 => implAdd_any (some a) (some a') n n' n n' (Nat.le_refl _) (Nat.le_refl _) bd bd' c l c' l' (by omega) (by omega) W h1 h2)
    · exact lawAddConstraints_no2 A A' n n' cap cap' bd bd' w h (by omega) hm'
  · exact lawAddConstraints_no1 A A' n n' cap cap' bd bd' w (by omega) hm
end Go.Proofs.Ytfcmhnbofoohmaa
