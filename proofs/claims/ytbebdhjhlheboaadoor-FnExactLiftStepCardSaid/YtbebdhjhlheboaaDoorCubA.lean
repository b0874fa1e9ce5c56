/- Cubes: the tests of both sides (no claim of its own). Conditions: as each theorem states. -/
import Derived.Test.YtbebdhjhlheboaaDoorCubM
import Derived.Test.YtbebdhjhlheboaaDoorClnX
namespace Go.Proofs.YtbebdhjhlheboaaDoor
open Go.ChangeShapes Go.WideShapes Go.ChangeAt Go.RowKit

set_option linter.unusedVariables false in
set_option maxRecDepth 100000 in
set_option maxHeartbeats 1600000 in
theorem isCube_any (A : Option Addr) (n cap : Nat) (c : Nat → Int) (w : World) (hn : n ≤ 1048576) (hr : RdI w w.heap.size A n c) :
    Calls Tryd.prog 26 #[.slice A n cap] w fun e w' => e = .returned (.bool (cubeB n c)) ∧ Below w.heap.size w w' := by
  go_enter Tryd.func26, Tryd.ntmps26
  go_wp2
  go_loopw [3, 9] (fun t i wr => ∃ k : Nat, k ≤ n ∧ i = .int .i64 k ∧ t = .int .i64 (lastV (abF c) k) ∧ litR c k = true ∧ varR (abF c) k = true ∧ Below w.heap.size w wr) (fun _ i _ => n - (intOf i).toNat)
  case atStart => exact ⟨0, Nat.zero_le _, rfl, rfl, rfl, rfl, Below.refl _ _⟩
  case round =>
    obtain ⟨k, hk, rfl, rfl, hl, hv, hb⟩ := hrel
    have Hl := Lib.hid hl
    have Hv := Lib.hid hv
    clear hl hv
    by_cases hlt : k < n
    · obtain ⟨b, off, rfl, hbl, hc⟩ := (hr.below hb) (by omega)
      have hc1 := hc k hlt
      clear hc hr
      by_cases hL : litB (c k) = true
      · obtain ⟨hl0, hl1, hl2⟩ := litB_iff.1 hL
        by_cases hA : ab (c k) ≤ lastV (abF c) k
        · have No := Lib.hid (cube_asc (c := c) (k := k) (by omega) hlt)
          clear hl0
          go_wp2_with (first | (go_at_call 58; refine (litValid_any _ _).mono ?_; rintro e w' ⟨rfl, rfl⟩) | (go_at_call 59; refine (litVariable_any _ _ (by assumption) (by assumption)).mono ?_; rintro e w' ⟨rfl, rfl⟩))
          go_ret
          exact ⟨ret_bool No.out.symm, hb⟩
        · have H1 := Lib.hid (litR_yes Hl.out hL)
          have H2 := Lib.hid (varR_yes Hv.out ⟨show lastV (abF c) k < ab (c k) by omega, (ab_pos hL).2⟩)
          clear hl0
          go_wp2_with (first | (go_at_call 58; refine (litValid_any _ _).mono ?_; rintro e w' ⟨rfl, rfl⟩) | (go_at_call 59; refine (litVariable_any _ _ (by assumption) (by assumption)).mono ?_; rintro e w' ⟨rfl, rfl⟩))
          go_roundw
          case rel => exact ⟨k + 1, by omega, by go_num, rfl, H1.out, H2.out, hb⟩
          case measure => simp [intOf]; omega
      · rw [Bool.not_eq_true] at hL
        have No := Lib.hid (cube_lit (n := n) hL hlt)
        go_wp2_with (go_at_call 58; refine (litValid_any _ _).mono ?_; rintro e w' ⟨rfl, rfl⟩)
        go_ret
        exact ⟨ret_bool No.out.symm, hb⟩
    · have e : k = n := by omega
      subst e
      have Hfin := Lib.hid (cube_end Hl.out Hv.out)
      clear hr
      go_wp2
      go_ret
      exact ⟨ret_bool (by rw [Hfin.out, decide_eq_decide]; omega), hb⟩

set_option linter.unusedVariables false in
set_option maxRecDepth 100000 in
set_option maxHeartbeats 1600000 in
theorem l12Vars_any (A : Option Addr) (n cap : Nat) (c : Nat → Int) (w : World) (hn : n ≤ 1048576) (hr : RdI w w.heap.size A n c) :
    Calls Tryd.prog 52 #[.slice A n cap] w fun e w' => e = .returned (.bool (varsB n c)) ∧ Below w.heap.size w w' := by
  go_enter Tryd.func52, Tryd.ntmps52
  go_wp2
  go_loopw [3] (fun i wr => ∃ k : Nat, k ≤ n ∧ i = .int .i64 k ∧ varR c k = true ∧ Below w.heap.size w wr) (fun i _ => n - (intOf i).toNat)
  case atStart => exact ⟨0, Nat.zero_le _, rfl, rfl, Below.refl _ _⟩
  case round =>
    obtain ⟨k, hk, rfl, hp, hb⟩ := hrel
    have Hp := Lib.hid hp
    clear hp
    by_cases hlt : k < n
    · obtain ⟨b, off, rfl, hbl, hc⟩ := (hr.below hb) (by omega)
      have hck := hc k hlt
      have hlt' : (k : Int) < (n : Int) := by omega
      have hk0 : (0 : Int) ≤ (k : Int) := by omega
      have hge := lastV_ge Hp.out
      by_cases h0 : c k < 1
      · have No := Lib.hid (varsB_no (varR_no (c := c) (k := k) (n := n) (fun h => by omega) hlt))
        clear hc hr hge
        go_wp2_with fail
        go_quiet (fail)
        go_wp2
        go_ret
        exact ⟨ret_bool No.out.symm, bl_drewN hb _⟩
      · have hd0 : decide (c k < 1) = false := by simpa using h0
        by_cases h2 : 12 < c k
        · have No := Lib.hid (varsB_no (varR_no (c := c) (k := k) (n := n) (fun h => by omega) hlt))
          clear hc hr hge
          go_wp2_with fail
          go_quiet (fail)
          go_wp2
          go_ret
          exact ⟨ret_bool No.out.symm, bl_drewN hb _⟩
        · have hd2 : decide (12 < c k) = false := by simpa using h2
          cases k with
          | zero =>
            simp only [Nat.add_zero] at hck
            have Go_ := Lib.hid (varR_yes (c := c) Hp.out ⟨show (0 : Int) < c 0 by omega, by omega⟩)
            clear hc hr hge
            go_wp2_with fail
            go_quiet (fail)
            go_wp2
            go_roundw
            case rel => exact ⟨1, by omega, rfl, Go_.out, bl_drewN hb _⟩
            case measure => simp [intOf]; omega
          | succ j =>
            have hcj := hc j (by omega)
            have hj0 : (0 : Int) ≤ (j : Int) := by omega
            have hj1 : (j : Int) < (n : Int) := by omega
            have hpos : (0 : Int) < ((j + 1 : Nat) : Int) := by omega
            by_cases h3 : c (j + 1) ≤ c j
            · have No := Lib.hid (varsB_no (varR_no (c := c) (k := j + 1) (n := n) (fun h => by have h4 : c j < c (j + 1) := h.1; omega) hlt))
              clear hc hr hge
              go_wp2_with fail
              have hwj : IntKind.i64.wrap (j : Int) = j := IntWalk.i64_in _ (by omega)
              go_quiet (fail)
              clear hwj
              go_wp2
              go_ret
              exact ⟨ret_bool No.out.symm, bl_drewN hb _⟩
            · have hd3 : decide (c (j + 1) ≤ c j) = false := by simpa using h3
              have Go_ := Lib.hid (varR_yes (c := c) Hp.out ⟨show c j < c (j + 1) by omega, by omega⟩)
              clear hc hr hge
              go_wp2_with fail
              have hwj : IntKind.i64.wrap (j : Int) = j := IntWalk.i64_in _ (by omega)
              go_quiet (fail)
              clear hwj
              go_wp2
              go_roundw
              case rel => exact ⟨j + 1 + 1, by omega, by go_num, Go_.out, bl_drewN hb _⟩
              case measure => simp [intOf]; omega
    · have e : k = n := by omega
      subst e
      have Hfin := Lib.hid (varsB_yes Hp.out)
      clear hr
      go_wp2
      go_ret
      exact ⟨ret_bool (by rw [Hfin.out, decide_eq_decide]; omega), hb⟩

set_option linter.unusedVariables false in
set_option maxRecDepth 100000 in
set_option maxHeartbeats 1600000 in
theorem l12Cube_any (A : Option Addr) (n cap : Nat) (c : Nat → Int) (w : World) (hn : n ≤ 1048576) (hr : RdI w w.heap.size A n c) :
    Calls Tryd.prog 21 #[.slice A n cap] w fun e w' => e = .returned (.bool (cubeB n c)) ∧ Below w.heap.size w w' := by
  go_enter Tryd.func21, Tryd.ntmps21
  go_wp2
  go_loopw [3, 4] (fun ov i wr => ∃ k : Nat, k ≤ n ∧ i = .int .i64 k ∧ litR c k = true ∧ RowAt w w.heap.size 3 [] (abL c k) ov wr) (fun _ i _ => n - (intOf i).toNat)
  case atStart => exact ⟨0, Nat.zero_le _, rfl, rfl, ⟨rowX_new _ _ _, (fun x hx => by cases hx), bl_alloc (Below.refl _ _) _, Nat.le_refl _, by simp⟩⟩
  case round =>
    obtain ⟨k, hk, rfl, hl, hrow⟩ := hrel
    have Hl := Lib.hid hl
    have Row := Lib.hid hrow
    clear hl hrow
    by_cases hlt : k < n
    · obtain ⟨b, off, rfl, hbl, hc⟩ := (hr.below Row.out.bel) (by omega)
      have hc1 := hc k hlt
      clear hc hr
      have hle : (abL c k).length ≤ 1048576 := by rw [abL_len]; omega
      by_cases hL : litB (c k) = true
      · obtain ⟨hl0, hl1, hl2⟩ := litB_iff.1 hL
        have H1 := Lib.hid (litR_yes Hl.out hL)
        have HA := Lib.hid (abL_succ c k)
        clear hl0
        go_wp2_with fail
        refine (l1Lit_any _ _).mono ?_
        rintro e w' ⟨rfl, rfl⟩
        rw [hL]
        clear hL
        go_wp2_with fail
        refine (l1Abs_any _ _ hl1 hl2).mono ?_
        rintro e w' ⟨rfl, rfl⟩
        go_wp2_with (at_builtin; refine wpList_plain (by rfl) fun K' hK' => ?_; refine wp_rowI _ _ 27 (by rfl) Tryd.underlying27 Tryd.infoInt Row.out (bl_alloc (Below.refl _ _) _) (by rfl) (by rfl) (heap_alloc_new _ _) hle ?_; intro gg cap1 w3 hout; refine hK' _ _ ?_; clear hK' K')
        go_roundw
        case rel => exact ⟨k + 1, by omega, by go_num, H1.out, by rw [HA.out]; exact hout⟩
        case measure => simp [intOf]; omega
      · rw [Bool.not_eq_true] at hL
        have No := Lib.hid (cube_lit (n := n) hL hlt)
        go_wp2_with fail
        refine (l1Lit_any _ _).mono ?_
        rintro e w' ⟨rfl, rfl⟩
        rw [hL]
        go_wp2
        go_ret
        exact ⟨ret_bool No.out.symm, Row.out.bel⟩
    · have e : k = n := by omega
      subst e
      obtain ⟨A1, cap1, rfl, hF⟩ := Row.out.fr
      have HF := Lib.hid hF
      have HB := Lib.hid Row.out.bel
      have HV := Lib.hid (vars_abL c k)
      have HC := Lib.hid (show cubeB k c = varsB k (abF c) from by unfold cubeB; rw [Hl.out]; rfl)
      rw [abL_len] at HF
      rw [abL_len]
      clear hr hF Row
      go_wp2_with fail
      refine (l12Vars_any _ _ _ _ _ hn HF.out.rdAt).mono ?_
      rintro e w' ⟨rfl, hb⟩
      have HB2 := Lib.hid (bl_trans HB.out hb)
      clear hb
      go_wp2
      go_ret
      exact ⟨ret_bool (by rw [HC.out, HV.out]), HB2.out⟩
end Go.Proofs.YtbebdhjhlheboaaDoor
