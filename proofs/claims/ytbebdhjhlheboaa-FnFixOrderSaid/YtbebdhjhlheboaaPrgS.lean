/- The model's propagation (no claim of its own). Conditions: as each theorem states. -/
import Derived.Test.YtbebdhjhlheboaaPrgM
import Derived.Test.YtbebdhjhlheboaaCpyI
namespace Go.Proofs.Ytbebdhjhlheboaa
open Go.ChangeShapes Go.WideShapes Go.ChangeAt Go.RowKit Go.Shelf

theorem asg_pos {v : Nat → Int} {i : Nat} : asg v ((i : Int) + 1) = fun j => if j = i then 1 else v j := by
  funext j
  unfold asg
  rw [if_pos (by omega)]
  have : ((i : Int) + 1 - 1).toNat = i := by omega
  rw [this]
theorem asg_neg {v : Nat → Int} {i : Nat} : asg v (-((i : Int) + 1)) = fun j => if j = i then -1 else v j := by
  funext j
  unfold asg
  rw [if_neg (by omega)]
  have : (- -((i : Int) + 1) - 1).toNat = i := by omega
  rw [this]

theorem grown_set (w : World) (G i : Nat) (u : Value) : w.grownBy (w.setCell ⟨G, i, none⟩ u) (some G) :=
  ⟨rfl, rfl, rfl, by simp [World.setCell], fun k _ hne => Below.heap_setCell w ⟨G, i, none⟩ u k (fun e => hne (by rw [e]))⟩
theorem grown_trans {w w1 w2 : World} {R : Option Nat} (h : w.grownBy w1 R) (h' : w1.grownBy w2 R) : w.grownBy w2 R :=
  ⟨h'.os.trans h.os, h'.tape.trans h.tape, h'.output.trans h.output, Nat.le_trans h.size h'.size, fun k hk hne => (h'.block k (Nat.lt_of_lt_of_le hk h.size) hne).trans (h.block k hk hne)⟩
theorem grown_below {G : Nat} {w w1 : World} (h : w.grownBy w1 (some G)) (hG : G ≤ w.heap.size) : Below G w w1 := (Below.refl G w).grown h hG fun k e => by cases e; exact Nat.le_refl _
theorem below_grown {G : Nat} {w w1 : World} (h : Below w.heap.size w w1) : w.grownBy w1 (some G) := ⟨h.os, h.tape, h.output, h.size, fun k hk _ => h.block k hk⟩

set_option maxRecDepth 100000 in
set_option maxHeartbeats 800000 in
theorem l3Assign_any (G cap : Nat) (v : Nat → Int) (z : Int) (w : World) (hz : litB z = true) (h : OwnV w G 3 12 12 v) :
    Calls Try.prog 52 #[.slice (some ⟨G, 0, none⟩) 12 cap, .int .i64 z] w fun e w' => e = .returned (.tuple #[]) ∧ OwnV w' G 3 12 12 (asg v z) ∧ w.grownBy w' (some G) := by
  obtain ⟨h0, h1, h2⟩ := litB_iff.1 hz
  rcases (show 0 < z ∨ z < 0 by omega) with hp | hp
  · obtain ⟨i, hi, rfl⟩ : ∃ i : Nat, i < 12 ∧ z = (i : Int) + 1 := ⟨(z - 1).toNat, by omega, by omega⟩
    obtain ⟨u, hu⟩ := h.cell hi
    have hf := h.frozen i
    have hw1 : wrap64 ((i : Int) + 1 - 1) = (i : Int) := by rw [← IntWalk.i64_left, IntWalk.i64_in _ (by omega)]; omega
    have hw2 : IntKind.i64.wrap ((i : Int) + 1 - 1) = (i : Int) := by rw [IntWalk.i64_in _ (by omega)]; omega
    have hi0 : (0 : Int) ≤ (i : Int) := by omega
    have hi1 : (i : Int) < 12 := by omega
    have H := Lib.hid (show OwnV (w.setCell ⟨G, i, none⟩ (.int .i64 1)) G 3 12 12 (asg v ((i : Int) + 1)) by rw [asg_pos]; exact h.setI hi 1)
    clear h hz h0 h1 h2
    go_enter Try.func52, Try.ntmps52
    go_wp2
    exact ⟨rfl, .tuple #[], by simp [results, Try.results52], rfl, H.out, grown_set w G i _⟩
  · obtain ⟨i, hi, rfl⟩ : ∃ i : Nat, i < 12 ∧ z = -((i : Int) + 1) := ⟨(-z - 1).toNat, by omega, by omega⟩
    obtain ⟨u, hu⟩ := h.cell hi
    have hf := h.frozen i
    have hnp : ¬ 0 < -((i : Int) + 1) := by omega
    have H := Lib.hid (show OwnV (w.setCell ⟨G, i, none⟩ (.int .i64 (-1))) G 3 12 12 (asg v (-((i : Int) + 1))) by rw [asg_neg]; exact h.setI hi (-1))
    have hw3 : IntKind.i64.wrap (- -((i : Int) + 1)) = (i : Int) + 1 := by rw [IntWalk.i64_in _ (by omega)]; omega
    have hw4 : wrap64 (- -((i : Int) + 1)) = (i : Int) + 1 := by rw [← IntWalk.i64_left]; exact hw3
    have hw1 : wrap64 ((i : Int) + 1 - 1) = (i : Int) := by rw [← IntWalk.i64_left, IntWalk.i64_in _ (by omega)]; omega
    have hw2 : IntKind.i64.wrap ((i : Int) + 1 - 1) = (i : Int) := by rw [IntWalk.i64_in _ (by omega)]; omega
    have hi0 : (0 : Int) ≤ (i : Int) := by omega
    have hi1 : (i : Int) < 12 := by omega
    generalize -((i : Int) + 1) = z at *
    clear h hz h0 h1 h2
    go_enter Try.func52, Try.ntmps52
    go_wp2
    exact ⟨rfl, .tuple #[], by simp [results, Try.results52], rfl, H.out, grown_set w G i _⟩
end Go.Proofs.Ytbebdhjhlheboaa
