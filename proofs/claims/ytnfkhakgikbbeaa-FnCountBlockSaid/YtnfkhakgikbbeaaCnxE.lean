/- The draw of NextSolution's arguments, the problem's own row kept (no claim of its own). Conditions: as each theorem states. -/
import Derived.Test.YtnfkhakgikbbeaaCdrZ
namespace Go.Proofs.Ytnfkhakgikbbeaa
open Go.ChangeShapes Go.WideShapes Go.ChangeAt Go.RowKit

/-- What the draw of a problem and values leaves. -/
def DNy (w : World) (e : Ending) (w' : World) : Prop := ∃ Al kl capl xs lo el A k cap v, e = .returned (.tuple #[.slice Al kl capl, .slice A k cap]) ∧ kl ≤ 16 ∧ k ≤ 12 ∧ PX w' lo el 15 (.slice Al kl capl) kl xs ∧ RdB w' w'.heap.size A k v ∧ Below w.heap.size w w'

set_option linter.unusedVariables false in
set_option maxRecDepth 100000 in
set_option maxHeartbeats 3200000 in
theorem drawNextX_any (A : Option Addr) (n cap : Nat) (y : Nat → Int) (w : World) (hm : n ≤ maxLen) (hcap : n ≤ cap) (hr : RdY w w.heap.size A n y) :
    Calls Try.prog 10 #[.slice A n cap] w (DNy w) := by
  go_enter Try.func10, Try.ntmps10
  go_wp2_with fail
  refine (open_any _ _ _ y _ hm hcap hr).mono ?_
  rintro e w1 ⟨rfl, hb, hrd, hz1⟩
  have HB1 := Lib.hid hb
  have RD1 := Lib.hid hrd
  clear hb hrd hr
  go_wp2_with fail
  refine (hard_any w.heap.size 0 _ (by omega) RD1.out).mono ?_
  rintro e w2 ⟨A2, k2, cap2, xs2, rfl, hk2, _, _, hp, hg, hr⟩
  have HP2 := Lib.hid hp
  have G2 := Lib.hid hg
  have RD2 := Lib.hid hr
  have hz2 : w1.heap.size ≤ w2.heap.size := hg.size
  clear hp hg hr RD1
  go_wp2_with fail
  refine (mutateQ_any w.heap.size (0 + 4000) 12 _ _ _ _ xs2 _ (by omega) (by omega) hk2 RD2.out HP2.out).mono ?_
  rintro e w3 ⟨A3, k3, cap3, xs3, rfl, hk3, _, _, hp, hg, hr⟩
  have HP3 := Lib.hid hp
  have G3 := Lib.hid (G2.out.trans hg)
  have RD3 := Lib.hid hr
  have hz3 : w2.heap.size ≤ w3.heap.size := hg.size
  clear hp hg hr RD2 HP2 G2
  go_wp2_with fail
  refine (values_any w.heap.size (0 + 4000 + 40) _ (by omega) RD3.out).mono ?_
  rintro e w4 ⟨A4, k4, cap4, v4, rfl, hk4, hfb, hg, hr⟩
  have FB4 := Lib.hid hfb
  have G4 := Lib.hid hg
  have RD4 := Lib.hid hr
  clear hfb hg hr RD3
  go_wp2_with fail
  refine (pick_any w.heap.size (0 + 4000 + 40 + 20) 2 _ (by omega) RD4.out).mono ?_
  rintro e w5 ⟨x, rfl, hx0, hx1, hg, hr⟩
  have FB5 := Lib.hid (FB4.out.grB hg (by omega))
  have G5 := Lib.hid (G4.out.trans hg)
  clear hg hr RD4 FB4 G4 hx0 hx1
  by_cases h0 : x = 0
  · subst h0
    go_wp2
    go_loopw [7] (fun i wr => ∃ (j : Nat) (v : Nat → Bool), j ≤ 3 ∧ i = .int .i64 j ∧ FB wr w3.heap.size A4 k4 v ∧ Gr w.heap.size w3 wr) (fun i _ => 3 - (intOf i).toNat)
    case atStart => exact ⟨0, v4, by omega, rfl, FB5.out, G5.out⟩
    case round =>
      obtain ⟨j, v, hj, rfl, hfb, hgr⟩ := hrel
      have FBk := Lib.hid hfb
      have GR := Lib.hid hgr
      clear hfb hgr FB5 G5
      have fin : ∀ {w9 : World}, FB w9 w3.heap.size A4 k4 v → Gr w.heap.size w3 w9 → DNy w (.returned (.tuple #[.slice A3 k3 cap3, .slice A4 k4 cap4])) w9 := fun {w9} hf hg => by
        exact ⟨A3, k3, cap3, xs3, _, _, A4, k4, cap4, v, rfl, hk3, hk4, HP3.out.gr hg (by omega) (by omega), hf.rd, gr_bel9 HB1.out (G3.out.trans hg) (Nat.le_refl _)⟩
      by_cases hlt : j < k4
      · have hltI : (j : Int) < (k4 : Int) := by omega
        have hj0 : (0 : Int) ≤ (j : Int) := by omega
        by_cases h3 : j < 3
        · have h3I : (j : Int) < 3 := by omega
          obtain ⟨GB, rfl, hGB, ⟨u, hu⟩, fu⟩ := FBk.out.cellB hlt
          have HF5 := Lib.hid (FBk.out.putB (j := j) (by omega) false)
          have HG5 := Lib.hid (GR.out.set (p := ⟨GB, j, none⟩) (.inr (by show w3.heap.size ≤ GB; omega)) (.bool false))
          clear FBk GR fin
          go_wp2
          go_roundw
          case rel => exact ⟨j + 1, _, by omega, by go_num, HF5.out, HG5.out⟩
          case measure => simp [intOf]; omega
        · obtain rfl : j = 3 := by omega
          have HZ := Lib.hid (fin FBk.out GR.out)
          clear FBk GR fin
          go_wp2
          go_ret2
          exact HZ.out
      · have hgeI : ¬ (j : Int) < (k4 : Int) := by omega
        have HZ := Lib.hid (fin FBk.out GR.out)
        clear FBk GR fin
        go_wp2
        go_ret2
        exact HZ.out
  · have hd0 : (x == 0) = false := by rw [beq_eq_false_iff_ne]; exact h0
    have hz : DNy w (.returned (.tuple #[.slice A3 k3 cap3, .slice A4 k4 cap4])) w5 := by
      exact ⟨A3, k3, cap3, xs3, _, _, A4, k4, cap4, v4, rfl, hk3, hk4, HP3.out.gr G5.out (by omega) (by omega), FB5.out.rd, gr_bel9 HB1.out (G3.out.trans G5.out) (Nat.le_refl _)⟩
    have HZ := Lib.hid hz
    clear hz FB5 G5 HP3 G3
    go_wp2
    go_ret2
    exact HZ.out
end Go.Proofs.Ytnfkhakgikbbeaa
