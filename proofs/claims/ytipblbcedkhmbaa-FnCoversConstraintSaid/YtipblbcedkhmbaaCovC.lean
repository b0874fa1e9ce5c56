/- Contracts of both CoversConstraint functions, met (no claim of its own). Conditions: as each theorem states. -/
import Derived.Test.YtipblbcedkhmbaaCovA
import Derived.Test.YtipblbcedkhmbaaCovB
namespace Go.Proofs.Ytipblbcedkhmbaa
open Go.ChangeShapes Go.WideShapes Go.ChangeAt Go.RowKit Go.Shelf

theorem w64 {x : Int} (h0 : -1000000000000 ≤ x) (h1 : x ≤ 1000000000000) : wrap64 x = x := by rw [← IntWalk.i64_left]; exact IntWalk.i64_in _ (by omega)
theorem los0_bnd {p : (Int × Int) × (Int × Int)} (h : pairOk p) : 0 ≤ los0 p ∧ los0 p ≤ 1000 := by
  obtain ⟨⟨h1, h2⟩, h3, h4⟩ := h
  unfold los0 max0
  split
  · split <;> omega
  · omega
theorem los1_eq {s : Int} {p : (Int × Int) × (Int × Int)} (h : pairOk p) (h0 : 0 ≤ s) (h1 : s ≤ 100000000000) : los1 s p = s + los0 p := by
  have hb := los0_bnd h
  obtain ⟨⟨h2, h3⟩, h4, h5⟩ := h
  unfold los1 los0 max0 at *
  rw [w64 (x := p.1.1 - p.2.1) (by omega) (by omega)]
  split
  · rename_i he
    rw [if_pos he] at hb
    exact w64 (by omega) (by omega)
  · rename_i he
    rw [if_neg he] at hb
    exact w64 (by omega) (by omega)
theorem losW_go : ∀ (ps : List ((Int × Int) × (Int × Int))) (s : Int), (∀ p ∈ ps, pairOk p) → 0 ≤ s → s + 1000 * (ps.length : Int) ≤ 100000000000 → List.foldl los1 s ps = s + losP ps := by
  intro ps
  induction ps with
  | nil => intro s _ _ _; simp [losP]
  | cons p ps ih =>
    intro s h h0 h1
    have hp := h p (List.mem_cons_self ..)
    have hb := los0_bnd hp
    simp only [List.length_cons] at h1
    show List.foldl los1 (los1 s p) ps = s + (los0 p + losP ps)
    rw [los1_eq hp h0 (by omega), ih (s + los0 p) (fun q hq => h q (List.mem_cons_of_mem _ hq)) (by omega) (by omega)]
    omega
theorem losW_prs {N N' : Nat} {c l c' l' : Nat → Int} {bd bd' : Int} (hN : N ≤ 1048576) (hN' : N' ≤ 1048576) (hv : validB N c l bd = true) (hv' : validB N' c' l' bd' = true) :
    losW (prs (lst c l 0 N) (lst c' l' 0 N')) = losR (lst c l 0 N) (lst c' l' 0 N') := by
  have h1 := srt_valid hv
  have h2 := srt_valid hv'
  rw [← prs_loss _ _ _ (Nat.le_refl _) h1 h2]
  have h3 := mrg_len ((lst c l 0 N).length + (lst c' l' 0 N').length) (lst c l 0 N) (lst c' l' 0 N')
  rw [lst_len, lst_len] at h3
  have := losW_go (prs (lst c l 0 N) (lst c' l' 0 N')) 0 (prs_ok h1 h2) (Int.le_refl _) (by
    have : (prs (lst c l 0 N) (lst c' l' 0 N')).length ≤ N + N' := by unfold prs; rw [lst_len, lst_len]; exact h3
    omega)
  unfold losW
  rw [this]
  omega

theorem implCov_any (A A' : Option Addr) (N N' cap cap' : Nat) (bd bd' : Int) (c l c' l' : Nat → Int) (w : World) (hN : N ≤ 1048576) (hN' : N' ≤ 1048576) (hcap : N ≤ cap) (hcap' : N' ≤ cap')
    (hr : Rd w w.heap.size A N c l) (hr' : Rd w w.heap.size A' N' c' l') :
    Calls Try.prog 52 #[.agg #[.slice A N cap, .int .i64 bd], .agg #[.slice A' N' cap', .int .i64 bd']] w fun e w' => e = .returned (.bool (covB N c l bd N' c' l' bd')) ∧ Below w.heap.size w w' := by
  cases hv : validB N c l bd with
  | false =>
    have hR : covB N c l bd N' c' l' bd' = false := by unfold covB; rw [hv]; rfl
    rw [hR]
    exact implCov_no A A' N N' cap cap' bd bd' c l c' l' hN hN' w hr hr' (.inl hv)
  | true =>
    cases hv' : validB N' c' l' bd' with
    | false =>
      have hR : covB N c l bd N' c' l' bd' = false := by unfold covB; rw [hv, hv']; rfl
      rw [hR]
      exact implCov_no A A' N N' cap cap' bd bd' c l c' l' hN hN' w hr hr' (.inr hv')
    | true =>
      have hb := losR_bnd (srt_valid hv) (srt_valid hv')
      rw [lst_len] at hb
      have hbd : 0 ≤ bd ∧ bd ≤ 20000 := by
        have := hv
        unfold validB at this
        rw [Bool.and_eq_true] at this
        simpa using this.2
      have hR : covB N c l bd N' c' l' bd' = decide (bd' ≤ wrap64 (bd - losW (prs (lst c l 0 N) (lst c' l' 0 N')))) := by
        rw [losW_prs hN hN' hv hv', w64 (by omega) (by omega)]
        unfold covB
        rw [hv, hv']
        rfl
      rw [hR]
      exact (callsIn_wide (n := 6)).1 (covLoop_in 6 (by omega) A A' N N' cap cap' hcap hcap' bd bd' c l c' l' hN hN' w hv hv' hr hr')
end Go.Proofs.Ytipblbcedkhmbaa
