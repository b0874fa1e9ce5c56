/- Contracts of the model's last step of the normal form (no claim of its own). Conditions: as each theorem states. -/
import Derived.Test.YtjfcgehmeecnfaaNorB
namespace Go.Proofs.Ytjfcgehmeecnfaa
open Go.ChangeShapes Go.WideShapes Go.ChangeAt Go.RowKit

/-- The terms that the variables 1 to v leave; the bound behind them. -/
def rowAt (x : Int) (v : Nat) : List (Int × Int) := if 0 < x then [(x, (v : Int))] else if x < 0 then [(IntKind.i64.wrap (-x), -(v : Int))] else []
def rowsN (f : Nat → Int) : Nat → List (Int × Int)
  | 0 => []
  | v + 1 => rowsN f v ++ rowAt (f (v + 1)) (v + 1)
def bAt (b x : Int) : Int := if x < 0 then wrap64 (b - x) else b
def bndN (f : Nat → Int) (b0 : Int) : Nat → Int
  | 0 => b0
  | v + 1 => bAt (bndN f b0 v) (f (v + 1))
def rcells : List (Int × Int) → List Value
  | [] => []
  | r :: rs => .int .i64 r.1 :: .int .i64 r.2 :: rcells rs
theorem rcells_append (xs ys : List (Int × Int)) : rcells (xs ++ ys) = rcells xs ++ rcells ys := by
  induction xs with
  | nil => rfl
  | cons x xs ih => simp [rcells, ih]
theorem rowAt_pos {x : Int} {v : Nat} (h : 0 < x) : rowAt x v = [(x, (v : Int))] := if_pos h
theorem rowAt_neg {x : Int} {v : Nat} (h : x < 0) : rowAt x v = [(IntKind.i64.wrap (-x), -(v : Int))] := by unfold rowAt; rw [if_neg (by omega), if_pos h]
theorem rowAt_zero {x : Int} {v : Nat} (h : ¬ 0 < x) (h2 : ¬ x < 0) : rowAt x v = [] := by unfold rowAt; rw [if_neg h, if_neg h2]
theorem rowAt_length (x : Int) (v : Nat) : (rowAt x v).length ≤ 1 := by
  unfold rowAt
  split
  · simp
  · split <;> simp
theorem rowsN_length (f : Nat → Int) (v : Nat) : (rowsN f v).length ≤ v := by
  induction v with
  | zero => simp [rowsN]
  | succ v ih =>
    have := rowAt_length (f (v + 1)) (v + 1)
    simp [rowsN]
    omega

/-- The rows as functions of the place. -/
def rC (R : List (Int × Int)) (i : Nat) : Int := (R.getD i (0, 0)).1
def rL (R : List (Int × Int)) (i : Nat) : Int := (R.getD i (0, 0)).2
theorem flat_congr {c l c' l' : Nat → Int} {n : Nat} (h : ∀ i, i < n → c i = c' i ∧ l i = l' i) : flat c l n = flat c' l' n := by
  induction n with
  | zero => rfl
  | succ n ih =>
    unfold flat
    rw [ih (fun i hi => h i (by omega)), (h n (Nat.lt_succ_self n)).1, (h n (Nat.lt_succ_self n)).2]
theorem rcells_flat (R : List (Int × Int)) : rcells R = flat (rC R) (rL R) R.length := by
  have key : ∀ n, n ≤ R.length → rcells (R.take n) = flat (rC R) (rL R) n := by
    intro n
    induction n with
    | zero => intro _; rfl
    | succ n ih =>
      intro hn
      have hlt : n < R.length := by omega
      rw [List.take_succ_eq_append_getElem hlt, rcells_append, ih (by omega)]
      show _ = flat (rC R) (rL R) n ++ _
      simp [rcells, rC, rL, List.getD, List.getElem?_eq_getElem hlt]
  have := key R.length (Nat.le_refl _)
  rwa [List.take_length] at this
def capB (b : Int) : Int := if b < 0 then 0 else b
/-- Whether the rows and the bound are a valid constraint; what is answered. -/
def fitB (R : List (Int × Int)) (b : Int) : Bool := validB R.length (rC R) (rL R) (capB b)
def fitN (R : List (Int × Int)) (b : Int) : Nat := if fitB R b then R.length else 0
def fitD (R : List (Int × Int)) (b : Int) : Int := if fitB R b then capB b else 0

/-- The numbers and the places that the loop's relation speaks of. -/
structure NorP where
  G : Nat
  f : Nat → Int
  w : World

/-- What the walk knows while the rows R are in the field, the value of the field as a letter. -/
structure NorAt (p : NorP) (R : List (Int × Int)) (ov : Value) (wr : World) : Prop where
  o0 : wr.cell? ⟨p.w.heap.size + 1, 0, none⟩ = some ov
  o1 : wr.cell? ⟨p.w.heap.size + 1, 1, none⟩ = some (.int .i64 0)
  g0 : wr.frozen? ⟨p.w.heap.size + 1, 0, none⟩ = false
  g1 : wr.frozen? ⟨p.w.heap.size + 1, 1, none⟩ = false
  own : wr.ownsRow (p.w.heap.size + 2) 91 2 ov R.length (rcells R)
  r0 : wr.cell? ⟨p.w.heap.size, 0, none⟩ = some (.slice none 0 0)
  r1 : wr.cell? ⟨p.w.heap.size, 1, none⟩ = some (.int .i64 0)
  f0 : wr.frozen? ⟨p.w.heap.size, 0, none⟩ = false
  f1 : wr.frozen? ⟨p.w.heap.size, 1, none⟩ = false
  bel : Below p.w.heap.size p.w wr
def NorLoop (p : NorP) (R : List (Int × Int)) (wr : World) : Prop := ∃ ov, NorAt p R ov wr

section
variable {p : NorP} {R : List (Int × Int)} {ov : Value} {wr w0 w1 : World}
theorem nor_far (h : NorAt p R ov wr) {j : Nat} (hj : j ≤ p.w.heap.size + 1) : some j ≠ ov.ownBlock := fun e => by
  have := (h.own.lt j e.symm).1
  omega
theorem nor_cell (h : NorAt p R ov wr) (hb : Below wr.heap.size wr w0) (hg : w0.grownBy w1 ov.ownBlock) {j o : Nat} {v : Value} (hj : j ≤ p.w.heap.size + 1) (hc : wr.cell? ⟨j, o, none⟩ = some v) : w1.cell? ⟨j, o, none⟩ = some v :=
  hg.cell (a := ⟨j, o, none⟩) (kc hb hc) (nor_far h hj)
theorem nor_frozen (h : NorAt p R ov wr) (hb : Below wr.heap.size wr w0) (hg : w0.grownBy w1 ov.ownBlock) {j o : Nat} {v : Value} (hj : j ≤ p.w.heap.size + 1) (hc : wr.cell? ⟨j, o, none⟩ = some v) (hf : wr.frozen? ⟨j, o, none⟩ = false) : w1.frozen? ⟨j, o, none⟩ = false := by
  have hlt : j < wr.heap.size := World.block_lt_of_cell? wr ⟨j, o, none⟩ hc
  have h1 := hg.frozen_far ⟨j, o, none⟩ (by have := hb.size; show j < w0.heap.size; omega) (nor_far h hj)
  exact h1.trans (kf hb hlt hf)
theorem nor_t0 (h : NorAt p R ov wr) (hb : Below wr.heap.size wr w0) (hg : w0.grownBy w1 ov.ownBlock) : w1.cell? ⟨p.w.heap.size + 1, 0, none⟩ = some ov := nor_cell h hb hg (Nat.le_refl _) h.o0
theorem nor_u0 (h : NorAt p R ov wr) (hb : Below wr.heap.size wr w0) (hg : w0.grownBy w1 ov.ownBlock) : w1.frozen? ⟨p.w.heap.size + 1, 0, none⟩ = false := nor_frozen h hb hg (Nat.le_refl _) h.o0 h.g0
theorem nor_step {gg cap1 : Nat} {r : Int × Int} (h : NorAt p R ov wr) (hb : Below wr.heap.size wr w0)
    (hown : w1.ownsRow (p.w.heap.size + 2) 91 2 (.slice (some ⟨gg, 0, none⟩) (R.length + 1) cap1) (R.length + 1) (rcells R ++ [.int .i64 r.1, .int .i64 r.2]))
    (hg : w0.grownBy w1 ov.ownBlock) : NorLoop p (R ++ [r]) (w1.setCell ⟨p.w.heap.size + 1, 0, none⟩ (.slice (some ⟨gg, 0, none⟩) (R.length + 1) cap1)) := by
  have t0 := nor_t0 h hb hg
  have ne : ∀ {j o : Nat}, (j < p.w.heap.size + 1 ∨ o ≠ 0) → (⟨p.w.heap.size + 1, 0, none⟩ : Addr) ≠ ⟨j, o, none⟩ := fun hh e => by
    injection e with e1 e2 _
    omega
  have hown' : w1.ownsRow (p.w.heap.size + 2) 91 2 (.slice (some ⟨gg, 0, none⟩) (R.length + 1) cap1) (R ++ [r]).length (rcells (R ++ [r])) := by
    rw [rcells_append, List.length_append]
    exact hown
  refine ⟨_, World.cell?_setCell_same' _ _ _ (by rw [t0]; rfl), ?_, by rw [World.frozen?_setCell]; exact nor_u0 h hb hg, by rw [World.frozen?_setCell]; exact nor_frozen h hb hg (Nat.le_refl _) h.o1 h.g1, ownsRow_setCell_below hown' (by show p.w.heap.size + 1 < p.w.heap.size + 2; omega) _, ?_, ?_,
    by rw [World.frozen?_setCell]; exact nor_frozen h hb hg (by omega) h.r0 h.f0, by rw [World.frozen?_setCell]; exact nor_frozen h hb hg (by omega) h.r1 h.f1, ?_⟩
  · exact (World.cell?_setCell_other _ _ _ _ (ne (.inr (by omega)))).trans (nor_cell h hb hg (Nat.le_refl _) h.o1)
  · exact (World.cell?_setCell_other _ _ _ _ (ne (.inl (by omega)))).trans (nor_cell h hb hg (by omega) h.r0)
  · exact (World.cell?_setCell_other _ _ _ _ (ne (.inl (by omega)))).trans (nor_cell h hb hg (by omega) h.r1)
  · have h2 : Below p.w.heap.size p.w w0 := bl_trans h.bel hb
    refine ((h2.grown hg h2.size (fun j e => ?_))).setCell (by show p.w.heap.size ≤ p.w.heap.size + 1; omega) _
    have := (h.own.lt j e).1
    omega
end

end Go.Proofs.Ytjfcgehmeecnfaa
