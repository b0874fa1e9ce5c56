/- A constraint that a loop builds by appending to its terms: what the loop's relation says (no claim of its own). Conditions: as each theorem states. -/
import Derived.Test.YtbebdhjhlheboaaDoorComB
import Derived.Deep.AppendLies
import Derived.Deep.RegionLaw
import Derived.Deep.DeepCutAuto
import Derived.Deep.CutBlock
namespace Go.Proofs.YtbebdhjhlheboaaDoor
open Go.ChangeShapes Go.WideShapes Go.ChangeAt Go.RowKit

/-- The cells of the first k terms. -/
def flat (c l : Nat → Int) : Nat → List Value
  | 0 => []
  | k + 1 => flat c l k ++ [.int .i64 (c k), .int .i64 (l k)]
theorem flat_length (c l : Nat → Int) (k : Nat) : (flat c l k).length = k * 2 := by
  induction k with
  | zero => rfl
  | succ k ih => simp [flat, ih]; omega
theorem flat_at (c l : Nat → Int) {n i : Nat} (hi : i < n) : (flat c l n)[i * 2]? = some (.int .i64 (c i)) ∧ (flat c l n)[i * 2 + 1]? = some (.int .i64 (l i)) := by
  induction n with
  | zero => omega
  | succ n ih =>
    have hl := flat_length c l n
    unfold flat
    by_cases e : i = n
    · subst e
      rw [List.getElem?_append_right (by omega), List.getElem?_append_right (by omega), hl]
      simp
    · rw [List.getElem?_append_left (by omega), List.getElem?_append_left (by omega)]
      exact ih (by omega)
/-- A row of the call's own that holds terms is a slice that the call has made. -/
theorem frs_of_row {w : World} {B n : Nat} {ov : Value} {c l : Nat → Int} (h : w.ownsRow B 60 2 ov n (flat c l n)) : ∃ A cap, ov = .slice A n cap ∧ Frs w B A n c l := by
  rcases h.2 with ⟨rfl, rfl⟩ | ⟨g, cap, cur, rfl, hg, hh, hnc, _, hsz, htk⟩
  · exact ⟨none, 0, rfl, .inl rfl⟩
  · refine ⟨_, cap, rfl, .inr ⟨g, rfl, hg, cur, hh, by omega, fun i hi => ?_⟩⟩
    have hx := flat_at c l hi
    rw [← htk] at hx
    rw [List.getElem?_take_of_lt (by omega), List.getElem?_take_of_lt (by omega)] at hx
    simpa using hx

theorem frozen_row {w : World} {B : Nat} {cs : Array Value} {t : TypeId} (h : w.heap[B]? = some (.cells cs t (0, 0))) (j : Nat) : w.frozen? ⟨B, j, none⟩ = false := by simp [World.frozen?, h]

/-- A store at or below the base leaves what the call has made. -/
theorem Frs.far {w : World} {B : Nat} {A : Option Addr} {n : Nat} {c l : Nat → Int} (h : Frs w B A n c l) {p : Addr} (_hs : p.spot = none) (hp : p.block < B) (u : Value) : Frs (w.setCell p u) B A n c l := by
  rcases h with h | ⟨G, e, hG, h⟩
  · exact .inl h
  · exact .inr ⟨G, e, hG, h.at_ (Below.heap_setCell w p u G (by omega))⟩

/-- A cell whose value is known and that may be written. -/
def Cel (wr : World) (j o : Nat) (v : Value) : Prop := wr.cell? ⟨j, o, none⟩ = some v ∧ wr.frozen? ⟨j, o, none⟩ = false

theorem Cel.below {w w' : World} {j o : Nat} {v : Value} (h : Cel w j o v) (hb : Below w.heap.size w w') : Cel w' j o v :=
  ⟨kc hb h.1, kf hb (World.block_lt_of_cell? w ⟨j, o, none⟩ h.1) h.2⟩

/-- The struct in block O, whose first field is a slice of terms that the loop builds: cs and ls are the terms, k of them so far; the cells of ks stay. -/
structure OutAt (w : World) (O : Nat) (ks : List (Nat × Nat × Value)) (c l : Nat → Int) (k : Nat) (ov : Value) (wr : World) : Prop where
  o0 : Cel wr O 0 ov
  own : wr.ownsRow (O + 1) 60 2 ov k (flat c l k)
  keep : ∀ x ∈ ks, (x.1 < O ∨ (x.1 = O ∧ x.2.1 ≠ 0)) ∧ Cel wr x.1 x.2.1 x.2.2
  bel : Below w.heap.size w wr
  hO : w.heap.size ≤ O
def Out (w : World) (O : Nat) (ks : List (Nat × Nat × Value)) (c l : Nat → Int) (k : Nat) (wr : World) : Prop := ∃ ov, OutAt w O ks c l k ov wr

section
variable {w : World} {O : Nat} {ks : List (Nat × Nat × Value)} {c l : Nat → Int} {k : Nat} {ov : Value} {wr w1 wq : World}
theorem OutAt.far (h : OutAt w O ks c l k ov wr) {j : Nat} (hj : j ≤ O) : some j ≠ ov.ownBlock := fun e => by
  have := (h.own.lt j e.symm).1
  omega
theorem OutAt.cel (h : OutAt w O ks c l k ov wr) (hq : Below wr.heap.size wr wq) (hg : wq.grownBy w1 ov.ownBlock) {j o : Nat} {v : Value} (hj : j ≤ O) (hc : Cel wr j o v) : Cel w1 j o v := by
  have hc' := hc.below hq
  have hlt : j < wq.heap.size := World.block_lt_of_cell? wq ⟨j, o, none⟩ hc'.1
  exact ⟨hg.cell (a := ⟨j, o, none⟩) hc'.1 (h.far hj), (hg.frozen_far ⟨j, o, none⟩ hlt (h.far hj)).trans hc'.2⟩
theorem OutAt.t0 (h : OutAt w O ks c l k ov wr) (hq : Below wr.heap.size wr wq) (hg : wq.grownBy w1 ov.ownBlock) : w1.cell? ⟨O, 0, none⟩ = some ov := (h.cel hq hg (Nat.le_refl _) h.o0).1
theorem OutAt.u0 (h : OutAt w O ks c l k ov wr) (hq : Below wr.heap.size wr wq) (hg : wq.grownBy w1 ov.ownBlock) : w1.frozen? ⟨O, 0, none⟩ = false := (h.cel hq hg (Nat.le_refl _) h.o0).2
theorem Cel.set {j o O' o' : Nat} {v u : Value} (h : Cel wr j o v) (hne : j ≠ O' ∨ o ≠ o') : Cel (wr.setCell ⟨O', o', none⟩ u) j o v := by
  refine ⟨(World.cell?_setCell_other _ _ _ _ (fun e => ?_)).trans h.1, by rw [World.frozen?_setCell]; exact h.2⟩
  injection e with e1 e2 _
  omega
theorem Cel.put {j o : Nat} {v u : Value} (h : Cel wr j o v) : Cel (wr.setCell ⟨j, o, none⟩ u) j o u :=
  ⟨World.cell?_setCell_same' _ _ _ (by rw [h.1]; rfl), by rw [World.frozen?_setCell]; exact h.2⟩
theorem OutAt.step {gg cap1 : Nat} (h : OutAt w O ks c l k ov wr) (hq : Below wr.heap.size wr wq) {x y : Int} (hx : c k = x) (hy : l k = y)
    (hown : w1.ownsRow (O + 1) 60 2 (.slice (some ⟨gg, 0, none⟩) (k + 1) cap1) (k + 1) (flat c l k ++ [.int .i64 x, .int .i64 y]))
    (hg : wq.grownBy w1 ov.ownBlock) : Out w O ks c l (k + 1) (w1.setCell ⟨O, 0, none⟩ (.slice (some ⟨gg, 0, none⟩) (k + 1) cap1)) := by
  subst hx hy
  have hO := h.hO
  refine ⟨_, (h.cel hq hg (Nat.le_refl _) h.o0).put, ownsRow_setCell_below hown (by show O < O + 1; omega) _, fun x hx => ?_, ?_, hO⟩
  · obtain ⟨h1, h2⟩ := h.keep x hx
    refine ⟨h1, (h.cel hq hg (by omega) h2).set (by omega)⟩
  · have h2 : Below w.heap.size w wq := bl_trans h.bel hq
    refine ((h2.grown hg h2.size (fun j e => ?_))).setCell (by show w.heap.size ≤ O; omega) _
    have := (h.own.lt j e).1
    omega
theorem OutAt.frs (h : OutAt w O ks c l k ov wr) : ∃ A cap, ov = .slice A k cap ∧ Frs wr (O + 1) A k c l := frs_of_row h.own
end
end Go.Proofs.YtbebdhjhlheboaaDoor
