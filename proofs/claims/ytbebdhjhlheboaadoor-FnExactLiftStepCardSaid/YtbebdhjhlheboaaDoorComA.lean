/- What the laws of this seat share: helpers of the walks (no claim of its own). Conditions: as each theorem states. -/
import Derived.Test.YtbebdhjhlheboaaDoorValidB
import Derived.Deep.RegionHeld3
namespace Go.Proofs.YtbebdhjhlheboaaDoor
open Go.ChangeShapes Go.WideShapes Go.ChangeAt Go.RowKit

theorem OwnT.rdAt {w : World} {G n : Nat} {c l : Nat → Int} (h : OwnT w G n n c l) : Rd w w.heap.size (some ⟨G, 0, none⟩) n c l := h.rd.more h.lt
theorem Rd.later {w w' : World} {A : Option Addr} {n : Nat} {c l : Nat → Int} (h : Rd w w.heap.size A n c l) (hb : Below w.heap.size w w') : Rd w' w'.heap.size A n c l := (h.below hb).more hb.size
theorem ceq_refl (n : Nat) (c l : Nat → Int) (bd : Int) : ceq n c l c l bd bd = true := by simp [ceq, tseq_refl]

/-- A cell that holds something holds it behind a call that turns nothing. -/
theorem kc {W w1 : World} (hb : Below W.heap.size W w1) {p : Addr} {v : Value} (h : W.cell? p = some v) : w1.cell? p = some v :=
  (hb.cell (World.block_lt_of_cell? W p h)).trans h

theorem litAt {n : Nat} {c l : Nat → Int} {bd : Int} (h : validB n c l bd = true) {k : Nat} (hk : k < n) : litB (l k) = true := by
  unfold validB at h
  rw [Bool.and_eq_true] at h
  exact okAt_lit (vtB_at h.1 hk)

end Go.Proofs.YtbebdhjhlheboaaDoor
