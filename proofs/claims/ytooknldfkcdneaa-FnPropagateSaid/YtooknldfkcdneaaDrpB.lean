/- What the laws over Propagate's draw share (no claim of its own). Conditions: as each theorem states. -/
import Derived.Test.YtooknldfkcdneaaDrZ
import Derived.Deep.RegionHeld3
import Derived.Deep.QuietTactic
namespace Go.Proofs.Ytooknldfkcdneaa
open Go.ChangeShapes Go.WideShapes Go.ChangeAt Go.RowKit

/-- A slice of ints read by a function that is 0 behind its end. -/
theorem rdi_cut {w : World} {B n : Nat} {A : Option Addr} {v : Nat → Int} (h : RdI w B A n v) : ∃ u, RdI w B A n u ∧ (n = 12 → ∀ i, 12 ≤ i → u i = 0) :=
  ⟨fun i => if i < n then v i else 0, fun hn => by
    obtain ⟨b, off, e, hl, hc⟩ := h hn
    exact ⟨b, off, e, hl, fun i hi => by simp only [if_pos hi]; exact hc i hi⟩, fun e i hi => by simp only [if_neg (show ¬ i < n by omega)]⟩
/-- Two results of Propagate are one. -/
theorem pres_two {p : Nat → Con} {m n n2 : Nat} {v v1 v2 : Nat → Int} {r r2 : Int} {ok : Bool} (a1 : ok = true → n = 12 ∧ rng v1 ∧ Runs p m 0 v v1 r) (a0 : ok = false → n = 0 ∧ r = -1) (b1 : ok = true → n2 = 12 ∧ rng v2 ∧ Runs p m 0 v v2 r2) (b0 : ok = false → n2 = 0 ∧ r2 = -1) : n2 = n ∧ r2 = r ∧ (n = 0 ∨ v2 = v1) ∧ n ≤ 12 := by
  cases ok with
  | true =>
    obtain ⟨e1, _, h1⟩ := a1 rfl
    obtain ⟨e2, _, h2⟩ := b1 rfl
    obtain ⟨x, y⟩ := Runs.det h2 _ _ h1
    exact ⟨by omega, y, .inr x, by omega⟩
  | false =>
    obtain ⟨e1, h1⟩ := a0 rfl
    obtain ⟨e2, h2⟩ := b0 rfl
    exact ⟨by omega, by omega, .inl e1, by omega⟩
theorem fri_as {w : World} {B : Nat} {T : TypeId} {A : Option Addr} {n : Nat} {v v' : Nat → Int} (h : FrI w B T A n v) (e : n = 0 ∨ v = v') : FrI w B T A n v' := by
  rcases e with e | rfl
  · exact .inl e
  · exact h

set_option maxRecDepth 100000 in
set_option maxHeartbeats 400000 in
/-- Two slices with the same elements are equal. -/
theorem cpInts_refl (A A' : Option Addr) (n cap cap' : Nat) (v : Nat → Int) (w : World) (hn : n ≤ 1048576) (hr : RdI w w.heap.size A n v) (hr' : RdI w w.heap.size A' n v) :
    Calls Try.prog 27 #[.slice A n cap, .slice A' n cap'] w fun e w' => e = .returned (.bool true) ∧ Below w.heap.size w w' := by
  go_enter Try.func27, Try.ntmps27
  go_wp2
  go_loopw [5] (fun i wr => ∃ k : Nat, k ≤ n ∧ i = .int .i64 k ∧ Below w.heap.size w wr) (fun i _ => n - (intOf i).toNat)
  case atStart => exact ⟨0, Nat.zero_le _, rfl, Below.refl _ _⟩
  case round =>
    obtain ⟨k, hk, rfl, hb⟩ := hrel
    by_cases hlt : k < n
    · obtain ⟨b, off, rfl, hbl, hc⟩ := (hr.below hb) (by omega)
      obtain ⟨b', off', rfl, hbl', hc'⟩ := (hr'.below hb) (by omega)
      have hc1 := hc k hlt
      have hc2 := hc' k hlt
      clear hc hc' hr hr'
      have hlt' : (k : Int) < (n : Int) := by omega
      have hk0 : (0 : Int) ≤ (k : Int) := by omega
      go_wp2_with fail
      go_quiet (fail)
      go_wp2
      go_roundw
      case rel => exact ⟨k + 1, by omega, by go_num, bl_drewN hb _⟩
      case measure => simp [intOf]; omega
    · have e : k = n := by omega
      subst e
      go_wp2
      go_ret
      exact ⟨rfl, hb⟩
end Go.Proofs.Ytooknldfkcdneaa
