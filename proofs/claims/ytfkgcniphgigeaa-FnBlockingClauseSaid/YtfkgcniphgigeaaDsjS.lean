/- Contract of the model's ClauseOf (no claim of its own). Conditions: as each theorem states. -/
import Derived.Test.YtfkgcniphgigeaaDsjM
import Derived.Test.YtfkgcniphgigeaaIntA
namespace Go.Proofs.Ytfkgcniphgigeaa
open Go.ChangeShapes Go.WideShapes Go.ChangeAt Go.RowKit

/-- What the walk knows while the rows R are in the field of the struct o, the value of the field as a letter. -/
structure DsjAt (o : Nat) (W0 : World) (R : List (Int × Int)) (ov : Value) (wr : World) : Prop where
  o0 : wr.cell? ⟨o, 0, none⟩ = some ov
  o1 : wr.cell? ⟨o, 1, none⟩ = some (.int .i64 1)
  g0 : wr.frozen? ⟨o, 0, none⟩ = false
  g1 : wr.frozen? ⟨o, 1, none⟩ = false
  own : wr.ownsRow (o + 1) 40 2 ov R.length (rcells R)
  bel : Below o W0 wr
def DsjLoop (o : Nat) (W0 : World) (R : List (Int × Int)) (wr : World) : Prop := ∃ ov, DsjAt o W0 R ov wr

section
variable {o : Nat} {W0 : World} {R : List (Int × Int)} {ov : Value} {wr w0 w1 : World}
theorem dsj_far (h : DsjAt o W0 R ov wr) {j : Nat} (hj : j ≤ o) : some j ≠ ov.ownBlock := fun e => by
  have := (h.own.lt j e.symm).1
  omega
theorem dsj_cell (h : DsjAt o W0 R ov wr) (hb : Below wr.heap.size wr w0) (hg : w0.grownBy w1 ov.ownBlock) {j i : Nat} {v : Value} (hj : j ≤ o) (hc : wr.cell? ⟨j, i, none⟩ = some v) : w1.cell? ⟨j, i, none⟩ = some v :=
  hg.cell (a := ⟨j, i, none⟩) (kc hb hc) (dsj_far h hj)
theorem dsj_frozen (h : DsjAt o W0 R ov wr) (hb : Below wr.heap.size wr w0) (hg : w0.grownBy w1 ov.ownBlock) {j i : Nat} {v : Value} (hj : j ≤ o) (hc : wr.cell? ⟨j, i, none⟩ = some v) (hf : wr.frozen? ⟨j, i, none⟩ = false) : w1.frozen? ⟨j, i, none⟩ = false := by
  have hlt : j < wr.heap.size := World.block_lt_of_cell? wr ⟨j, i, none⟩ hc
  have h1 := hg.frozen_far ⟨j, i, none⟩ (by have := hb.size; show j < w0.heap.size; omega) (dsj_far h hj)
  exact h1.trans (kf hb hlt hf)
theorem dsj_t0 (h : DsjAt o W0 R ov wr) (hb : Below wr.heap.size wr w0) (hg : w0.grownBy w1 ov.ownBlock) : w1.cell? ⟨o, 0, none⟩ = some ov := dsj_cell h hb hg (Nat.le_refl _) h.o0
theorem dsj_u0 (h : DsjAt o W0 R ov wr) (hb : Below wr.heap.size wr w0) (hg : w0.grownBy w1 ov.ownBlock) : w1.frozen? ⟨o, 0, none⟩ = false := dsj_frozen h hb hg (Nat.le_refl _) h.o0 h.g0
theorem dsj_step {gg cap1 : Nat} {r : Int × Int} (h : DsjAt o W0 R ov wr) (hb : Below wr.heap.size wr w0)
    (hown : w1.ownsRow (o + 1) 40 2 (.slice (some ⟨gg, 0, none⟩) (R.length + 1) cap1) (R.length + 1) (rcells R ++ [.int .i64 r.1, .int .i64 r.2]))
    (hg : w0.grownBy w1 ov.ownBlock) : DsjLoop o W0 (R ++ [r]) (w1.setCell ⟨o, 0, none⟩ (.slice (some ⟨gg, 0, none⟩) (R.length + 1) cap1)) := by
  have t0 := dsj_t0 h hb hg
  have hol : o < wr.heap.size := World.block_lt_of_cell? wr ⟨o, 0, none⟩ h.o0
  have hown' : w1.ownsRow (o + 1) 40 2 (.slice (some ⟨gg, 0, none⟩) (R.length + 1) cap1) (R ++ [r]).length (rcells (R ++ [r])) := by
    rw [rcells_append, List.length_append]
    exact hown
  refine ⟨_, World.cell?_setCell_same' _ _ _ (by rw [t0]; rfl), ?_, by rw [World.frozen?_setCell]; exact dsj_u0 h hb hg, by rw [World.frozen?_setCell]; exact dsj_frozen h hb hg (Nat.le_refl _) h.o1 h.g1, ownsRow_setCell_below hown' (by show o < o + 1; omega) _, ?_⟩
  · exact (World.cell?_setCell_other _ _ _ _ (fun e => by injection e with e1 e2 _; omega)).trans (dsj_cell h hb hg (Nat.le_refl _) h.o1)
  · have h2 : Below o W0 w0 := h.bel.trans (hb.mono (by omega))
    refine (h2.grown hg (by have := h.bel.size; have := hb.size; omega) (fun j e => ?_)).setCell (by show o ≤ o; omega) _
    have := (h.own.lt j e).1
    omega
end

theorem clF_flat (n : Nat) (lt : Nat → Int) : rcells (clF n lt) = flat one1 (rL (clF n lt)) (clF n lt).length := rows_flat (clR_one _ _)

end Go.Proofs.Ytfkgcniphgigeaa
