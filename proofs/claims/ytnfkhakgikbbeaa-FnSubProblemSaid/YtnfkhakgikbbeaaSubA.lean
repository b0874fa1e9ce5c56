/- Contracts of the reference's and the program's tests of a part (no claim of its own). Conditions: as each theorem states. -/
import Derived.Test.YtnfkhakgikbbeaaSubM
namespace Go.Proofs.Ytnfkhakgikbbeaa
open Go.ChangeShapes Go.WideShapes Go.ChangeAt Go.RowKit

set_option linter.unusedVariables false in
set_option maxRecDepth 100000 in
set_option maxHeartbeats 1600000 in
theorem isPart_any (A : Option Addr) (nk cap m : Nat) (c : Nat → Int) (w : World) (hn : nk ≤ 1048576) (hm : m ≤ 1048576) (hr : RdI w w.heap.size A nk c) :
    Calls Try.prog 20 #[.slice A nk cap, .int .i64 m] w fun e w' => e = .returned (.bool (keepB c m nk)) ∧ w = w' := by
  go_enter Try.func20, Try.ntmps20
  go_wp2
  go_loop [5, 10] (fun l i => ∃ (k : Nat) (L : Int), k ≤ nk ∧ i = .int .i64 k ∧ l = .int .i64 L ∧ L = lastK c k ∧ keepB c m k = true) (fun _ i => nk - (intOf i).toNat)
  case atStart => exact ⟨0, -1, Nat.zero_le _, rfl, rfl, rfl, rfl⟩
  case round =>
    obtain ⟨k, L, hk, rfl, rfl, hL, hp⟩ := hrel
    have Hp := Lib.hid hp
    have HL := Lib.hid hL
    clear hp hL
    by_cases hlt : k < nk
    · obtain ⟨b, off, rfl, hbl, hc⟩ := hr (by omega)
      have hck := hc k hlt
      clear hc hr
      by_cases h1 : c k ≤ L
      · have No := Lib.hid (keepB_no (c := c) (m := m) (k := k) (n := nk) (fun h => by have := HL.out; omega) hlt)
        go_wp2
        go_ret
        exact ⟨ret_bool No.out.symm, rfl⟩
      · by_cases h2 : (m : Int) ≤ c k
        · have No := Lib.hid (keepB_no (c := c) (m := m) (k := k) (n := nk) (fun h => by omega) hlt)
          go_wp2
          go_ret
          exact ⟨ret_bool No.out.symm, rfl⟩
        · have Go_ := Lib.hid (keepB_yes Hp.out ⟨by have := HL.out; omega, by omega⟩)
          go_wp2
          go_round
          case rel => exact ⟨k + 1, _, by omega, by go_num, rfl, rfl, Go_.out⟩
          case measure => simp [intOf]; omega
    · have e : k = nk := by omega
      subst e
      clear hr
      go_wp2
      go_ret
      exact ⟨ret_bool Hp.out.symm, rfl⟩

set_option linter.unusedVariables false in
set_option maxRecDepth 100000 in
set_option maxHeartbeats 1600000 in
theorem l11Keep_any (A : Option Addr) (nk cap m : Nat) (c : Nat → Int) (w : World) (hn : nk ≤ 1048576) (hm : m ≤ 1048576) (hr : RdI w w.heap.size A nk c) :
    Calls Try.prog 23 #[.slice A nk cap, .int .i64 m] w fun e w' => e = .returned (.bool (keepB c m nk)) ∧ Below w.heap.size w w' := by
  go_enter Try.func23, Try.ntmps23
  go_wp2
  go_loopw [5] (fun i wr => ∃ k : Nat, k ≤ nk ∧ i = .int .i64 k ∧ keepB c m k = true ∧ Below w.heap.size w wr) (fun i _ => nk - (intOf i).toNat)
  case atStart => exact ⟨0, Nat.zero_le _, rfl, rfl, Below.refl _ _⟩
  case round =>
    obtain ⟨k, hk, rfl, hp, hb⟩ := hrel
    have Hp := Lib.hid hp
    clear hp
    by_cases hlt : k < nk
    · obtain ⟨b, off, rfl, hbl, hc⟩ := (hr.below hb) (by omega)
      have hck := hc k hlt
      have hlt' : (k : Int) < (nk : Int) := by omega
      have hk0 : (0 : Int) ≤ (k : Int) := by omega
      have hge := last_ge Hp.out
      by_cases h0 : c k < 0
      · have No := Lib.hid (keepB_no (c := c) (m := m) (k := k) (n := nk) (fun h => by omega) hlt)
        clear hc hr hge
        go_wp2_with fail
        go_quiet (fail)
        go_wp2
        go_ret
        exact ⟨ret_bool No.out.symm, bl_drewN hb _⟩
      · have hd0 : decide (c k < 0) = false := by simpa using h0
        by_cases h2 : (m : Int) ≤ c k
        · have No := Lib.hid (keepB_no (c := c) (m := m) (k := k) (n := nk) (fun h => by omega) hlt)
          clear hc hr hge
          go_wp2_with fail
          go_quiet (fail)
          go_wp2
          go_ret
          exact ⟨ret_bool No.out.symm, bl_drewN hb _⟩
        · have hd2 : decide ((m : Int) ≤ c k) = false := by simpa using h2
          cases k with
          | zero =>
            simp only [Nat.add_zero] at hck
            have Go_ := Lib.hid (keepB_yes (c := c) (m := m) Hp.out ⟨show (-1 : Int) < c 0 by omega, by omega⟩)
            clear hc hr hge
            go_wp2_with fail
            go_quiet (fail)
            go_wp2
            go_roundw
            case rel => exact ⟨1, by omega, rfl, Go_.out, bl_drewN hb _⟩
            case measure => simp [intOf]; omega
          | succ j =>
            have hcj := hc j (by omega)
            have hj0 : (0 : Int) ≤ (j : Int) := by omega
            have hj1 : (j : Int) < (nk : Int) := by omega
            have hpos : (0 : Int) < ((j + 1 : Nat) : Int) := by omega
            by_cases h3 : c (j + 1) ≤ c j
            · have No := Lib.hid (keepB_no (c := c) (m := m) (k := j + 1) (n := nk) (fun h => by have h4 : c j < c (j + 1) := h.1; omega) hlt)
              clear hc hr hge
              go_wp2_with fail
              have hwj : IntKind.i64.wrap (j : Int) = j := IntWalk.i64_in _ (by omega)
              go_quiet (fail)
              clear hwj
              go_wp2
              go_ret
              exact ⟨ret_bool No.out.symm, bl_drewN hb _⟩
            · have hd3 : decide (c (j + 1) ≤ c j) = false := by simpa using h3
              have Go_ := Lib.hid (keepB_yes (c := c) (m := m) Hp.out ⟨show c j < c (j + 1) by omega, by omega⟩)
              clear hc hr hge
              go_wp2_with fail
              have hwj : IntKind.i64.wrap (j : Int) = j := IntWalk.i64_in _ (by omega)
              go_quiet (fail)
              clear hwj
              go_wp2
              go_roundw
              case rel => exact ⟨j + 1 + 1, by omega, by go_num, Go_.out, bl_drewN hb _⟩
              case measure => simp [intOf]; omega
    · have e : k = nk := by omega
      subst e
      clear hr
      go_wp2
      go_ret
      exact ⟨ret_bool Hp.out.symm, hb⟩
end Go.Proofs.Ytnfkhakgikbbeaa
