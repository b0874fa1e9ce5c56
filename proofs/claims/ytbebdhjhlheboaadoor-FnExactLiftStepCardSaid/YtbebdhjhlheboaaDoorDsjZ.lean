/- The append of one term inside a region that draws its order, what lies below it kept (no claim of its own). Conditions: as each theorem states. · What is asked of the terms ahead of the normal form (no claim of its own). Conditions: as each theorem states. · Contracts of the model's net coefficients (no claim of its own). Conditions: as each theorem states. · Contracts of the model's last step of the normal form (no claim of its own). Conditions: as each theorem states. · Contracts of the program's infer, over whatever rule whose two methods have contracts (no claim of its own). Conditions: as each theorem states. · Contracts of both LiteralAxiom functions (no claim of its own). Conditions: as each theorem states. · The arithmetic of clauses: what both sides hand back, and that a sorted, compacted row of literals is the row of the variables (no claim of its own). Conditions: as each theorem states. · The program's rows of literals, collected and sorted (no claim of its own). Conditions: as each theorem states. · The pairs of terms of two constraints, variable by variable, and which list comes first (no claim of its own). Conditions: as each theorem states. · The program's rows of literals, sorted by their variables (no claim of its own). Conditions: as each theorem states. · The program's rows of literals, sorted (no claim of its own). Conditions: as each theorem states. · Contracts of the program's disjunction: whether it is ready (no claim of its own). Conditions: as each theorem states. · The program's disjunction: what it concludes (no claim of its own). Conditions: as each theorem states. · Contract of the program's ClauseOf (no claim of its own). Conditions: as each theorem states. -/
import Derived.Test.YtbebdhjhlheboaaDoorOutB
import Derived.Deep.RegionHeldLaw
import Derived.StillTailTactics
import Derived.Laws.OwnMore
import Derived.Test.YtbebdhjhlheboaaDoorComB
import Derived.Shelf.Abstract
import Derived.Lib.SlicesCompact
import Derived.Sort.Statements
import Derived.Test.YtbebdhjhlheboaaDoorSumD
import Derived.Test.YtbebdhjhlheboaaDoorIntA
import Derived.Deep.DeepCutAuto
import Derived.Test.YtbebdhjhlheboaaDoorLax
import Derived.Lib.SlKeysI
import Derived.Test.YtbebdhjhlheboaaDoorProB
import Derived.Deep.AppendLies
namespace Go.Proofs.YtbebdhjhlheboaaDoor
open Go.ChangeShapes Go.WideShapes Go.ChangeAt Go.RowKit
section
variable {w : World} {O : Nat} {ks : List (Nat × Nat × Value)} {c l : Nat → Int} {k : Nat} {ov : Value} {wr w1 wq : World}
set_option maxRecDepth 100000 in
set_option maxHeartbeats 800000 in
theorem step_app2 {ops : Array Oper} {o : Oper} {a : Act} {K : Act → World → Prop} {Q : Exit → Act → World → Prop} {E : Prop} (hgd : o.guard = none) (s x : Operand)
    (ho : o.op = .call { callee := .builtin .append, args := #[s, x], argTypes := #[29, 29] })
    (h : OutAt w O ks c l k ov wq) (hs : a.eval s = ov) {H : Nat} (hH : wq.heap.size = H) (hx : a.eval x = .slice (some ⟨H, 0, none⟩) 1 1) {X Y : Int} (hX : c k = X) (hY : l k = Y) (hk : k ≤ 1048576)
    (hK : ∀ g cap w', w'.cell? ⟨O, 0, none⟩ = some ov → w'.frozen? ⟨O, 0, none⟩ = false → Out w O ks c l (k + 1) (w'.setCell ⟨O, 0, none⟩ (.slice (some ⟨g, 0, none⟩) (k + 1) cap)) → (∀ j p v, j ≤ O → wq.cell? ⟨j, p, none⟩ = some v → w'.cell? ⟨j, p, none⟩ = some v) → K (a.put o.dst (.slice (some ⟨g, 0, none⟩) (k + 1) cap)) w') :
    if Region.wanted o (yielded ops a.tmps) = true then Oper.wp Tryd.prog o a (wq.alloc (.cells #[.int .i64 X, .int .i64 Y] 60)).drew K Q else E := by
  subst hH
  obtain ⟨i0, hi, hz0, hz1, hz2⟩ := info_parts Tryd.infoTerm
  have hq := (bl_alloc (Below.refl wq.heap.size wq) (.cells #[.int .i64 X, .int .i64 Y] 60)).drew
  refine step_append_lies _ hgd s x 29 ho (O + 1) 60 i0 _ 2 16 Tryd.underlying29 hi hz0 hz1 hz2 rfl (by omega) ov k _ hs ((h.own.alloc _).drew) ⟨wq.heap.size, 0, none⟩ 1 1 [.int .i64 X, .int .i64 Y] hx (by rfl)
    (World.news_of_block (heap_alloc_new wq _)) (by simp [Value.oneCell']) (by omega) (by unfold maxLen; omega) (by omega) ?_ (wq.heap.size + 1) (by simp) ?_
  · have := h.o0.1
    have := World.block_lt_of_cell? wq _ this
    simp at this ⊢
    omega
  · intro g cap w' hown hg _ _
    exact hK g cap w' (h.t0 hq hg) (h.u0 hq hg) (h.step hq hX hY hown hg) (fun j p v hj hc => hg.cell (a := ⟨j, p, none⟩) (kc hq hc) (h.far hj))
theorem alloc_eq {W : World} {o : Obj} {H : Nat} (h : W.heap.size = H) : (W.alloc o).heap[H]? = some o := by subst h; exact heap_alloc_new W o

set_option maxRecDepth 100000 in
set_option maxHeartbeats 800000 in
theorem wp_appG {o : Oper} {a : Act} {K : Act → World → Prop} {Q : Exit → Act → World → Prop} {W : World} (s x : Operand)
    (ho : o.op = .call { callee := .builtin .append, args := #[s, x], argTypes := #[29, 29] })
    (h : OutAt w O ks c l k ov wq) (hq : Below wq.heap.size wq W) (hs : a.eval s = ov) {H : Nat} (hx : a.eval x = .slice (some ⟨H, 0, none⟩) 1 1) {X Y : Int} (hnew : W.heap[H]? = some (.cells #[.int .i64 X, .int .i64 Y] 60 (0, 0)))
    (hX : c k = X) (hY : l k = Y) (hk : k ≤ 1048576)
    (hK : ∀ g cap w', w'.cell? ⟨O, 0, none⟩ = some ov → w'.frozen? ⟨O, 0, none⟩ = false → Out w O ks c l (k + 1) (w'.setCell ⟨O, 0, none⟩ (.slice (some ⟨g, 0, none⟩) (k + 1) cap)) → K (a.put o.dst (.slice (some ⟨g, 0, none⟩) (k + 1) cap)) w') :
    o.wp Tryd.prog a W K Q := by
  obtain ⟨i0, hi, hz0, hz1, hz2⟩ := info_parts Tryd.infoTerm
  refine wp_append_lies _ s x 29 ho (O + 1) 60 i0 _ 2 16 Tryd.underlying29 hi hz0 hz1 hz2 rfl (by omega) ov k _ hs (row_below h.own hq) ⟨H, 0, none⟩ 1 1 [.int .i64 X, .int .i64 Y] hx (by rfl)
    (World.news_of_block hnew) (by simp [Value.oneCell']) (by omega) (by unfold maxLen; omega) (by omega) ?_ W.heap.size rfl ?_
  · have h1 : O < wq.heap.size := World.block_lt_of_cell? wq ⟨O, 0, none⟩ h.o0.1
    have h2 := hq.size
    omega
  · intro g cap w' hown hg _ _
    exact hK g cap w' (h.t0 hq hg) (h.u0 hq hg) (h.step hq hX hY hown hg)

set_option maxRecDepth 100000 in
set_option maxHeartbeats 800000 in
theorem step_appG {ops : Array Oper} {o : Oper} {a : Act} {K : Act → World → Prop} {Q : Exit → Act → World → Prop} {E : Prop} {W : World} (hgd : o.guard = none) (s x : Operand)
    (ho : o.op = .call { callee := .builtin .append, args := #[s, x], argTypes := #[29, 29] })
    (h : OutAt w O ks c l k ov wq) (hq : Below wq.heap.size wq W) (hs : a.eval s = ov) {H : Nat} (hx : a.eval x = .slice (some ⟨H, 0, none⟩) 1 1) {X Y : Int} (hnew : W.heap[H]? = some (.cells #[.int .i64 X, .int .i64 Y] 60 (0, 0)))
    (hX : c k = X) (hY : l k = Y) (hk : k ≤ 1048576)
    (hK : ∀ g cap w', w'.cell? ⟨O, 0, none⟩ = some ov → w'.frozen? ⟨O, 0, none⟩ = false → Out w O ks c l (k + 1) (w'.setCell ⟨O, 0, none⟩ (.slice (some ⟨g, 0, none⟩) (k + 1) cap)) → K (a.put o.dst (.slice (some ⟨g, 0, none⟩) (k + 1) cap)) w') :
    if Region.wanted o (yielded ops a.tmps) = true then Oper.wp Tryd.prog o a W K Q else E := by
  have hw : Region.wanted o (yielded ops a.tmps) = true := by simp [Region.wanted, hgd]
  rw [if_pos hw]
  exact wp_appG s x ho h hq hs hx hnew hX hY hk hK

/-- The second field of the struct written. -/
theorem OutAt.setB {ks0 : List (Nat × Nat × Value)} {u v : Value} (h0 : ∀ x ∈ ks0, x.1 < O) (h : OutAt w O ((O, 1, u) :: ks0) c l k ov wr) : OutAt w O ((O, 1, v) :: ks0) c l k ov (wr.setCell ⟨O, 1, none⟩ v) := by
  have hO := h.hO
  refine ⟨h.o0.set (by omega), ownsRow_setCell_below h.own (by show O < O + 1; omega) _, fun x hx => ?_, h.bel.setCell (by show w.heap.size ≤ O; omega) _, hO⟩
  rcases List.mem_cons.1 hx with rfl | hx
  · exact ⟨.inr ⟨rfl, by simp⟩, (h.keep (O, 1, u) (List.mem_cons_self ..)).2.put⟩
  · obtain ⟨h1, h2⟩ := h.keep x (List.mem_cons_of_mem _ hx)
    have := h0 x hx
    exact ⟨h1, h2.set (by omega)⟩
end
end Go.Proofs.YtbebdhjhlheboaaDoor

namespace Go.Proofs.YtbebdhjhlheboaaDoor
open Go.ChangeShapes Go.WideShapes Go.ChangeAt Go.RowKit

/-- A term that may be normalized. -/
def okN (c l : Nat → Int) (k : Nat) : Bool := litB (l k) && (decide (-1000 ≤ c k) && decide (c k ≤ 1000))
def allN (c l : Nat → Int) : Nat → Bool
  | 0 => true
  | k + 1 => allN c l k && okN c l k
def preB (n : Nat) (c l : Nat → Int) (bd : Int) : Bool := allN c l n && (decide (n ≤ 40) && (decide (-20000 ≤ bd) && decide (bd ≤ 20000)))
theorem allN_at {c l : Nat → Int} {n k : Nat} (h : allN c l n = true) (hk : k < n) : okN c l k = true := by
  induction n with
  | zero => omega
  | succ n ih =>
    unfold allN at h
    rw [Bool.and_eq_true] at h
    by_cases e : k = n
    · subst e; exact h.2
    · exact ih h.1 (by omega)
theorem allN_succ {c l : Nat → Int} {k : Nat} (h : allN c l k = true) (h2 : okN c l k = true) : allN c l (k + 1) = true := by
  unfold allN; rw [h, h2]; rfl
theorem preB_no {n : Nat} {c l : Nat → Int} {bd : Int} {k : Nat} (h : okN c l k = false) (hk : k < n) : preB n c l bd = false := by
  cases hv : allN c l n with
  | false => unfold preB; rw [hv]; rfl
  | true => rw [allN_at hv hk] at h; cases h
theorem preB_out {n : Nat} {c l : Nat → Int} {bd : Int} (h : 40 < n ∨ bd < -20000 ∨ 20000 < bd) : preB n c l bd = false := by
  rcases h with h | h | h <;> simp [preB] <;> omega
theorem preB_in {n : Nat} {c l : Nat → Int} {bd : Int} (h : allN c l n = true) (h1 : n ≤ 40) (h2 : -20000 ≤ bd) (h3 : bd ≤ 20000) : preB n c l bd = true := by
  simp [preB, h, h1, h2, h3]
theorem preB_iff {n : Nat} {c l : Nat → Int} {bd : Int} : preB n c l bd = true ↔ allN c l n = true ∧ n ≤ 40 ∧ -20000 ≤ bd ∧ bd ≤ 20000 := by
  simp [preB]
theorem okN_iff {c l : Nat → Int} {k : Nat} : okN c l k = true ↔ litB (l k) = true ∧ -1000 ≤ c k ∧ c k ≤ 1000 := by simp [okN]
theorem okN_nf {c l : Nat → Int} {k : Nat} (h : litB (l k) = false ∨ c k < -1000 ∨ 1000 < c k) : okN c l k = false := by
  rcases h with h | h | h <;> simp [okN, h] <;> omega

end Go.Proofs.YtbebdhjhlheboaaDoor

namespace Go.Proofs.YtbebdhjhlheboaaDoor
open Go.ChangeShapes Go.WideShapes Go.ChangeAt Go.RowKit

/-- The net coefficient of a variable behind k terms, as Go computes it; the bound. -/
def net (c l : Nat → Int) : Nat → Nat → Int
  | 0, _ => 0
  | k + 1, v => if l k = (v : Int) then wrap64 (net c l k v + c k) else if l k = -(v : Int) then wrap64 (net c l k v - c k) else net c l k v
def nbd (c l : Nat → Int) (bd : Int) : Nat → Int
  | 0 => bd
  | k + 1 => if 0 < l k then nbd c l bd k else wrap64 (nbd c l bd k - c k)
theorem nbd_pos {c l : Nat → Int} {bd : Int} {k : Nat} (h : 0 < l k) : nbd c l bd (k + 1) = nbd c l bd k := if_pos h
theorem nbd_neg {c l : Nat → Int} {bd : Int} {k : Nat} (h : l k < 0) : nbd c l bd (k + 1) = wrap64 (nbd c l bd k - c k) := if_neg (by omega)

/-- A block of numbers. -/
def OwnK (w : World) (G N : Nat) (f : Nat → Int) : Prop :=
  ∃ cs : Array Value, w.heap[G]? = some (.cells cs 3 (0, 0)) ∧ cs.size = N ∧ ∀ i, i < N → cs[i]? = some (.int .i64 (f i))
section
variable {w w' : World} {G N : Nat} {f g : Nat → Int}
theorem OwnK.at_ (h : OwnK w G N f) (hg : w'.heap[G]? = w.heap[G]?) : OwnK w' G N f := by
  obtain ⟨cs, hh, h1, h2⟩ := h
  exact ⟨cs, hg.trans hh, h1, h2⟩
theorem OwnK.lt (h : OwnK w G N f) : G < w.heap.size := by
  obtain ⟨cs, hh, h1, h2⟩ := h
  rcases Nat.lt_or_ge G w.heap.size with hlt | hge
  · exact hlt
  · rw [Array.getElem?_eq_none hge] at hh; cases hh
theorem OwnK.below (h : OwnK w G N f) {B : Nat} (hb : Below B w w') (hG : G < B) : OwnK w' G N f := h.at_ (hb.block G hG)
theorem OwnK.alloc (h : OwnK w G N f) (o : Obj) : OwnK (w.alloc o) G N f := h.below (bl_alloc (Below.refl _ _) o) h.lt
theorem OwnK.cell (h : OwnK w G N f) {j : Nat} (hj : j < N) : w.cell? ⟨G, j, none⟩ = some (.int .i64 (f j)) := by
  obtain ⟨cs, hh, h1, h2⟩ := h
  exact (cell_of_row w G _ cs _ _ hh).trans (h2 j hj)
theorem OwnK.frozen (h : OwnK w G N f) (j : Nat) : w.frozen? ⟨G, j, none⟩ = false := by
  obtain ⟨cs, hh, h1, h2⟩ := h
  simp [World.frozen?, hh]
theorem OwnK.put (h : OwnK w G N f) {v : Nat} {x : Int} (hv : v < N) (hx : g v = x) (he : ∀ i, i < N → i ≠ v → g i = f i) : OwnK (w.setCell ⟨G, v, none⟩ (.int .i64 x)) G N g := by
  obtain ⟨cs, hh, h1, h2⟩ := h
  refine ⟨cs.setIfInBounds v (.int .i64 x), by simp [World.setCell, Array.getElem?_modify, hh], by simp [h1], fun i hi => ?_⟩
  simp only [Array.getElem?_setIfInBounds]
  by_cases e : v = i
  · subst e
    rw [if_pos rfl, if_pos (by omega), hx]
  · rw [if_neg e, he i hi (fun e' => e e'.symm)]
    exact h2 i hi
theorem OwnK.far (h : OwnK w G N f) {p : Addr} (hp : G ≠ p.block) (u : Value) : OwnK (w.setCell p u) G N f := h.at_ (Below.heap_setCell w p u G hp)
end


theorem madeCells_get (z : Value) {i : Nat} (hi : i < 13) : (madeCells #[z] 13)[i]? = some z := by
  have h : (madeCells #[z] 13).toList = List.replicate 13 z := toList_madeCells_one z 13
  rw [← Array.getElem?_toList, h, List.getElem?_replicate, if_pos hi]
theorem net_pos {c l : Nat → Int} {k v : Nat} (h : l k = (v : Int)) : net c l (k + 1) v = wrap64 (net c l k v + c k) := by
  show (if _ then _ else _) = _
  rw [if_pos h]
theorem net_neg {c l : Nat → Int} {k v : Nat} (h : l k = -(v : Int)) (hv : 0 < v) : net c l (k + 1) v = wrap64 (net c l k v - c k) := by
  show (if _ then _ else _) = _
  rw [if_neg (by omega), if_pos h]
theorem net_off {c l : Nat → Int} {k v : Nat} (h : l k ≠ (v : Int)) (h2 : l k ≠ -(v : Int)) : net c l (k + 1) v = net c l k v := by
  show (if _ then _ else _) = _
  rw [if_neg h, if_neg h2]

end Go.Proofs.YtbebdhjhlheboaaDoor

namespace Go.Proofs.YtbebdhjhlheboaaDoor
open Go.ChangeShapes Go.WideShapes Go.ChangeAt Go.RowKit

/-- The terms that the variables 1 to v leave; the bound behind them. -/
def rowAt (x : Int) (v : Nat) : List (Int × Int) := if 0 < x then [(x, (v : Int))] else if x < 0 then [(IntKind.i64.wrap (-x), -(v : Int))] else []
def rowsN (f : Nat → Int) : Nat → List (Int × Int)
  | 0 => []
  | v + 1 => rowsN f v ++ rowAt (f (v + 1)) (v + 1)
def bAt (b x : Int) : Int := if x < 0 then wrap64 (b - x) else b
def bndN (f : Nat → Int) (b0 : Int) : Nat → Int
  | 0 => b0
  | v + 1 => bAt (bndN f b0 v) (f (v + 1))
def rcells : List (Int × Int) → List Value
  | [] => []
  | r :: rs => .int .i64 r.1 :: .int .i64 r.2 :: rcells rs
theorem rcells_append (xs ys : List (Int × Int)) : rcells (xs ++ ys) = rcells xs ++ rcells ys := by
  induction xs with
  | nil => rfl
  | cons x xs ih => simp [rcells, ih]
theorem rowAt_pos {x : Int} {v : Nat} (h : 0 < x) : rowAt x v = [(x, (v : Int))] := if_pos h
theorem rowAt_neg {x : Int} {v : Nat} (h : x < 0) : rowAt x v = [(IntKind.i64.wrap (-x), -(v : Int))] := by unfold rowAt; rw [if_neg (by omega), if_pos h]
theorem rowAt_zero {x : Int} {v : Nat} (h : ¬ 0 < x) (h2 : ¬ x < 0) : rowAt x v = [] := by unfold rowAt; rw [if_neg h, if_neg h2]
theorem rowAt_length (x : Int) (v : Nat) : (rowAt x v).length ≤ 1 := by
  unfold rowAt
  split
  · simp
  · split <;> simp
theorem rowsN_length (f : Nat → Int) (v : Nat) : (rowsN f v).length ≤ v := by
  induction v with
  | zero => simp [rowsN]
  | succ v ih =>
    have := rowAt_length (f (v + 1)) (v + 1)
    simp [rowsN]
    omega

/-- The rows as functions of the place. -/
def rC (R : List (Int × Int)) (i : Nat) : Int := (R.getD i (0, 0)).1
def rL (R : List (Int × Int)) (i : Nat) : Int := (R.getD i (0, 0)).2
theorem flat_congr {c l c' l' : Nat → Int} {n : Nat} (h : ∀ i, i < n → c i = c' i ∧ l i = l' i) : flat c l n = flat c' l' n := by
  induction n with
  | zero => rfl
  | succ n ih =>
    unfold flat
    rw [ih (fun i hi => h i (by omega)), (h n (Nat.lt_succ_self n)).1, (h n (Nat.lt_succ_self n)).2]
theorem rcells_flat (R : List (Int × Int)) : rcells R = flat (rC R) (rL R) R.length := by
  have key : ∀ n, n ≤ R.length → rcells (R.take n) = flat (rC R) (rL R) n := by
    intro n
    induction n with
    | zero => intro _; rfl
    | succ n ih =>
      intro hn
      have hlt : n < R.length := by omega
      rw [List.take_succ_eq_append_getElem hlt, rcells_append, ih (by omega)]
      show _ = flat (rC R) (rL R) n ++ _
      simp [rcells, rC, rL, List.getD, List.getElem?_eq_getElem hlt]
  have := key R.length (Nat.le_refl _)
  rwa [List.take_length] at this
def capB (b : Int) : Int := if b < 0 then 0 else b
/-- Whether the rows and the bound are a valid constraint; what is answered. -/
def fitB (R : List (Int × Int)) (b : Int) : Bool := validB R.length (rC R) (rL R) (capB b)
def fitN (R : List (Int × Int)) (b : Int) : Nat := if fitB R b then R.length else 0
def fitD (R : List (Int × Int)) (b : Int) : Int := if fitB R b then capB b else 0

/-- The numbers and the places that the loop's relation speaks of. -/
structure NorP where
  G : Nat
  f : Nat → Int
  w : World

/-- What the walk knows while the rows R are in the field, the value of the field as a letter. -/
structure NorAt (p : NorP) (R : List (Int × Int)) (ov : Value) (wr : World) : Prop where
  o0 : wr.cell? ⟨p.w.heap.size + 1, 0, none⟩ = some ov
  o1 : wr.cell? ⟨p.w.heap.size + 1, 1, none⟩ = some (.int .i64 0)
  g0 : wr.frozen? ⟨p.w.heap.size + 1, 0, none⟩ = false
  g1 : wr.frozen? ⟨p.w.heap.size + 1, 1, none⟩ = false
  own : wr.ownsRow (p.w.heap.size + 2) 60 2 ov R.length (rcells R)
  r0 : wr.cell? ⟨p.w.heap.size, 0, none⟩ = some (.slice none 0 0)
  r1 : wr.cell? ⟨p.w.heap.size, 1, none⟩ = some (.int .i64 0)
  f0 : wr.frozen? ⟨p.w.heap.size, 0, none⟩ = false
  f1 : wr.frozen? ⟨p.w.heap.size, 1, none⟩ = false
  bel : Below p.w.heap.size p.w wr
def NorLoop (p : NorP) (R : List (Int × Int)) (wr : World) : Prop := ∃ ov, NorAt p R ov wr

section
variable {p : NorP} {R : List (Int × Int)} {ov : Value} {wr w0 w1 : World}
theorem nor_far (h : NorAt p R ov wr) {j : Nat} (hj : j ≤ p.w.heap.size + 1) : some j ≠ ov.ownBlock := fun e => by
  have := (h.own.lt j e.symm).1
  omega
theorem nor_cell (h : NorAt p R ov wr) (hb : Below wr.heap.size wr w0) (hg : w0.grownBy w1 ov.ownBlock) {j o : Nat} {v : Value} (hj : j ≤ p.w.heap.size + 1) (hc : wr.cell? ⟨j, o, none⟩ = some v) : w1.cell? ⟨j, o, none⟩ = some v :=
  hg.cell (a := ⟨j, o, none⟩) (kc hb hc) (nor_far h hj)
theorem nor_frozen (h : NorAt p R ov wr) (hb : Below wr.heap.size wr w0) (hg : w0.grownBy w1 ov.ownBlock) {j o : Nat} {v : Value} (hj : j ≤ p.w.heap.size + 1) (hc : wr.cell? ⟨j, o, none⟩ = some v) (hf : wr.frozen? ⟨j, o, none⟩ = false) : w1.frozen? ⟨j, o, none⟩ = false := by
  have hlt : j < wr.heap.size := World.block_lt_of_cell? wr ⟨j, o, none⟩ hc
  have h1 := hg.frozen_far ⟨j, o, none⟩ (by have := hb.size; show j < w0.heap.size; omega) (nor_far h hj)
  exact h1.trans (kf hb hlt hf)
theorem nor_t0 (h : NorAt p R ov wr) (hb : Below wr.heap.size wr w0) (hg : w0.grownBy w1 ov.ownBlock) : w1.cell? ⟨p.w.heap.size + 1, 0, none⟩ = some ov := nor_cell h hb hg (Nat.le_refl _) h.o0
theorem nor_u0 (h : NorAt p R ov wr) (hb : Below wr.heap.size wr w0) (hg : w0.grownBy w1 ov.ownBlock) : w1.frozen? ⟨p.w.heap.size + 1, 0, none⟩ = false := nor_frozen h hb hg (Nat.le_refl _) h.o0 h.g0
theorem nor_step {gg cap1 : Nat} {r : Int × Int} (h : NorAt p R ov wr) (hb : Below wr.heap.size wr w0)
    (hown : w1.ownsRow (p.w.heap.size + 2) 60 2 (.slice (some ⟨gg, 0, none⟩) (R.length + 1) cap1) (R.length + 1) (rcells R ++ [.int .i64 r.1, .int .i64 r.2]))
    (hg : w0.grownBy w1 ov.ownBlock) : NorLoop p (R ++ [r]) (w1.setCell ⟨p.w.heap.size + 1, 0, none⟩ (.slice (some ⟨gg, 0, none⟩) (R.length + 1) cap1)) := by
  have t0 := nor_t0 h hb hg
  have ne : ∀ {j o : Nat}, (j < p.w.heap.size + 1 ∨ o ≠ 0) → (⟨p.w.heap.size + 1, 0, none⟩ : Addr) ≠ ⟨j, o, none⟩ := fun hh e => by
    injection e with e1 e2 _
    omega
  have hown' : w1.ownsRow (p.w.heap.size + 2) 60 2 (.slice (some ⟨gg, 0, none⟩) (R.length + 1) cap1) (R ++ [r]).length (rcells (R ++ [r])) := by
    rw [rcells_append, List.length_append]
    exact hown
  refine ⟨_, World.cell?_setCell_same' _ _ _ (by rw [t0]; rfl), ?_, by rw [World.frozen?_setCell]; exact nor_u0 h hb hg, by rw [World.frozen?_setCell]; exact nor_frozen h hb hg (Nat.le_refl _) h.o1 h.g1, ownsRow_setCell_below hown' (by show p.w.heap.size + 1 < p.w.heap.size + 2; omega) _, ?_, ?_,
    by rw [World.frozen?_setCell]; exact nor_frozen h hb hg (by omega) h.r0 h.f0, by rw [World.frozen?_setCell]; exact nor_frozen h hb hg (by omega) h.r1 h.f1, ?_⟩
  · exact (World.cell?_setCell_other _ _ _ _ (ne (.inr (by omega)))).trans (nor_cell h hb hg (Nat.le_refl _) h.o1)
  · exact (World.cell?_setCell_other _ _ _ _ (ne (.inl (by omega)))).trans (nor_cell h hb hg (by omega) h.r0)
  · exact (World.cell?_setCell_other _ _ _ _ (ne (.inl (by omega)))).trans (nor_cell h hb hg (by omega) h.r1)
  · have h2 : Below p.w.heap.size p.w w0 := bl_trans h.bel hb
    refine ((h2.grown hg h2.size (fun j e => ?_))).setCell (by show p.w.heap.size ≤ p.w.heap.size + 1; omega) _
    have := (h.own.lt j e).1
    omega
end

end Go.Proofs.YtbebdhjhlheboaaDoor

namespace Go.Proofs.YtbebdhjhlheboaaDoor
open Go.ChangeShapes Go.WideShapes Go.ChangeAt Go.RowKit

/-- What a rule's conclusion comes to. -/
def infB (R : Bool) (n : Nat) (c l : Nat → Int) (bd : Int) : Bool := R && validB n c l bd
def infN (R : Bool) (n : Nat) (c l : Nat → Int) (bd : Int) : Nat := if infB R n c l bd then n else 0
def infD (R : Bool) (n : Nat) (c l : Nat → Int) (bd : Int) : Int := if infB R n c l bd then bd else 0
theorem infN_le (R : Bool) (n : Nat) (c l : Nat → Int) (bd : Int) : infN R n c l bd ≤ n := by unfold infN; split <;> omega

/-- What a rule's apply leaves. -/
def ARes (w : World) (n : Nat) (c l : Nat → Int) (bd : Int) (e : Ending) (w' : World) : Prop :=
  ∃ A cap, e = .returned (.agg #[.slice A n cap, .int .i64 bd]) ∧ Frs w' w.heap.size A n c l ∧ Below w.heap.size w w'

theorem Frs.far' {w : World} {B : Nat} {A : Option Addr} {n : Nat} {c l : Nat → Int} (h : Frs w B A n c l) {p : Addr} (_hs : p.spot = none) (hp : p.block < B) (u : Value) : Frs (w.setCell p u) B A n c l := by
  rcases h with h | ⟨G, e, hG, h⟩
  · exact .inl h
  · exact .inr ⟨G, e, hG, h.at_ (Below.heap_setCell w p u G (by omega))⟩

set_option maxRecDepth 100000 in
set_option maxHeartbeats 1600000 in
theorem infer_no (T : TypeId) (X : Value) (fr : Nat) (n : Nat) (c l : Nat → Int) (bd : Int) (w : World)
    (hm1 : ∀ w : World, (method 258 T X "loop.example/cuttingplanes/impl.ready").run Tryd.prog w = .ok (fr, X) w)
    (er : ∀ args w, (callFunc fr args).run Tryd.prog w = .ok (.enter fr args) w)
    (hR : ∀ W, Below w.heap.size w W → Calls Tryd.prog fr #[X] W fun e w' => e = .returned (.bool false) ∧ Below W.heap.size W w') :
    Calls Tryd.prog 60 #[.iface T X] w (CRes w (infN false n c l bd) c l (infD false n c l bd) (infB false n c l bd)) := by
  have HR := Lib.hid hR
  clear hR
  go_enter Tryd.func60, Tryd.ntmps60
  go_wp2_with fail
  refine (HR.out _ (by repeat (first | exact Below.refl _ _ | refine bl_alloc ?_ _ | refine Below.drew ?_))).mono ?_
  rintro e w1 ⟨rfl, hb⟩
  have HB1 := Lib.hid (bl_trans (bl_alloc (Below.refl w.heap.size w) _) hb)
  have r0 : w1.cell? ⟨w.heap.size, 0, none⟩ = some (.slice none 0 0) := kc hb (by go_simp)
  have r1 : w1.cell? ⟨w.heap.size, 1, none⟩ = some (.int .i64 0) := kc hb (by go_simp)
  have f0 : w1.frozen? ⟨w.heap.size, 0, none⟩ = false := kf hb (by simp) (by go_simp)
  have f1 : w1.frozen? ⟨w.heap.size, 1, none⟩ = false := kf hb (by simp) (by go_simp)
  clear hb
  go_wp2
  refine bodyPost_ret (v := .tuple #[.agg #[.slice none 0 0, .int .i64 0], .bool false]) (by simp [results, Tryd.results60, go_sem, r0, r1]) rfl ?_
  exact ⟨none, 0, rfl, .inl rfl, (HB1.out.setCell (by simp) _).setCell (by simp) _⟩

set_option maxRecDepth 100000 in
set_option maxHeartbeats 1600000 in
theorem infer_yes (T : TypeId) (X : Value) (fr fa : Nat) (n : Nat) (c l : Nat → Int) (bd : Int) (w : World) (hn : n ≤ 1048576)
    (hm1 : ∀ w : World, (method 258 T X "loop.example/cuttingplanes/impl.ready").run Tryd.prog w = .ok (fr, X) w)
    (hm2 : ∀ w : World, (method 258 T X "loop.example/cuttingplanes/impl.apply").run Tryd.prog w = .ok (fa, X) w)
    (er : ∀ args w, (callFunc fr args).run Tryd.prog w = .ok (.enter fr args) w)
    (ea : ∀ args w, (callFunc fa args).run Tryd.prog w = .ok (.enter fa args) w)
    (hR : ∀ W, Below w.heap.size w W → Calls Tryd.prog fr #[X] W fun e w' => e = .returned (.bool true) ∧ Below W.heap.size W w')
    (hA : ∀ W, Below w.heap.size w W → Calls Tryd.prog fa #[X] W (ARes W n c l bd)) :
    Calls Tryd.prog 60 #[.iface T X] w (CRes w (infN true n c l bd) c l (infD true n c l bd) (infB true n c l bd)) := by
  have HR := Lib.hid hR
  have HA := Lib.hid hA
  clear hR hA
  go_enter Tryd.func60, Tryd.ntmps60
  go_wp2_with fail
  refine (HR.out _ (by repeat (first | exact Below.refl _ _ | refine bl_alloc ?_ _ | refine Below.drew ?_))).mono ?_
  rintro e w1 ⟨rfl, hb⟩
  have HB1 := Lib.hid (bl_trans (bl_alloc (Below.refl w.heap.size w) _) hb)
  have r0 : w1.cell? ⟨w.heap.size, 0, none⟩ = some (.slice none 0 0) := kc hb (by go_simp)
  have r1 : w1.cell? ⟨w.heap.size, 1, none⟩ = some (.int .i64 0) := kc hb (by go_simp)
  have f0 : w1.frozen? ⟨w.heap.size, 0, none⟩ = false := kf hb (by simp) (by go_simp)
  have f1 : w1.frozen? ⟨w.heap.size, 1, none⟩ = false := kf hb (by simp) (by go_simp)
  have q1 : w.heap.size < w1.heap.size := World.block_lt_of_cell? w1 _ r0
  clear hb
  go_wp2_with fail
  refine (HA.out _ HB1.out).mono ?_
  rintro e w2 ⟨A2, cap2, rfl, hF, hb⟩
  have HB2 := Lib.hid (bl_trans HB1.out hb)
  replace r0 := kc hb r0
  replace r1 := kc hb r1
  replace f0 := kf hb q1 f0
  replace f1 := kf hb q1 f1
  have q2 : w.heap.size < w2.heap.size := World.block_lt_of_cell? w2 _ r0
  have hF2 := hF.more (B' := w.heap.size + 1) (by omega)
  clear hb hF
  go_wp2_with fail
  refine (implValid_any _ _ _ _ c l _ hn (hF2.below (bl_alloc (Below.refl w2.heap.size w2) (.cells #[.slice A2 n cap2, .int .i64 bd] 31))).rdAt).mono ?_
  rintro e w3 ⟨rfl, hb1⟩
  have p0 : w3.cell? ⟨w2.heap.size, 0, none⟩ = some (.slice A2 n cap2) := kc hb1 (by go_simp)
  have p1 : w3.cell? ⟨w2.heap.size, 1, none⟩ = some (.int .i64 bd) := kc hb1 (by go_simp)
  have hb := bl_trans (bl_alloc (Below.refl w2.heap.size w2) (.cells #[.slice A2 n cap2, .int .i64 bd] 31)) hb1
  have HB3 := Lib.hid (bl_trans HB2.out hb)
  have HF3 := Lib.hid (hF2.below hb)
  replace r0 := kc hb r0
  replace r1 := kc hb r1
  replace f0 := kf hb q2 f0
  replace f1 := kf hb q2 f1
  clear hb hb1 hF2
  cases hok : validB n c l bd with
  | false =>
    have HX := Lib.hid (show infN true n c l bd = 0 ∧ infD true n c l bd = 0 ∧ infB true n c l bd = false from ⟨by unfold infN infB; rw [hok]; rfl, by unfold infD infB; rw [hok]; rfl, by unfold infB; rw [hok]; rfl⟩)
    clear hok
    go_wp2
    refine bodyPost_ret (v := .tuple #[.agg #[.slice none 0 0, .int .i64 0], .bool false]) (by simp [results, Tryd.results60, go_sem, r0, r1]) rfl ?_
    obtain ⟨x1, x2, x3⟩ := HX.out
    rw [x1, x2, x3]
    exact ⟨none, 0, rfl, .inl rfl, (HB3.out.setCell (by simp) _).setCell (by simp) _⟩
  | true =>
    have HX := Lib.hid (show infN true n c l bd = n ∧ infD true n c l bd = bd ∧ infB true n c l bd = true from ⟨by unfold infN infB; rw [hok]; rfl, by unfold infD infB; rw [hok]; rfl, by unfold infB; rw [hok]; rfl⟩)
    clear hok
    go_wp2
    refine bodyPost_ret (v := .tuple #[.agg #[.slice A2 n cap2, .int .i64 bd], .bool true]) (by simp [results, Tryd.results60, go_sem, r0, r1]) rfl ?_
    obtain ⟨x1, x2, x3⟩ := HX.out
    rw [x1, x2, x3]
    exact ⟨_, _, rfl, ((HF3.out.far' (by simp) (by simp) _).far' (by simp) (by simp) _).more (by omega), (HB3.out.setCell (by simp) _).setCell (by simp) _⟩

/-- A rule whose readiness is told by R. -/
theorem infer_any (T : TypeId) (X : Value) (fr fa : Nat) (R : Bool) (n : Nat) (c l : Nat → Int) (bd : Int) (w : World) (hn : n ≤ 1048576)
    (hm1 : ∀ w : World, (method 258 T X "loop.example/cuttingplanes/impl.ready").run Tryd.prog w = .ok (fr, X) w)
    (hm2 : ∀ w : World, (method 258 T X "loop.example/cuttingplanes/impl.apply").run Tryd.prog w = .ok (fa, X) w)
    (er : ∀ args w, (callFunc fr args).run Tryd.prog w = .ok (.enter fr args) w)
    (ea : ∀ args w, (callFunc fa args).run Tryd.prog w = .ok (.enter fa args) w)
    (hR : ∀ W, Below w.heap.size w W → Calls Tryd.prog fr #[X] W fun e w' => e = .returned (.bool R) ∧ Below W.heap.size W w')
    (hA : R = true → ∀ W, Below w.heap.size w W → Calls Tryd.prog fa #[X] W (ARes W n c l bd)) :
    Calls Tryd.prog 60 #[.iface T X] w (CRes w (infN R n c l bd) c l (infD R n c l bd) (infB R n c l bd)) := by
  cases R with
  | false => exact infer_no T X fr n c l bd w hm1 er hR
  | true => exact infer_yes T X fr fa n c l bd w hn hm1 hm2 er ea hR (hA rfl)
end Go.Proofs.YtbebdhjhlheboaaDoor

namespace Go.Proofs.YtbebdhjhlheboaaDoor
open Go.ChangeShapes Go.WideShapes Go.ChangeAt Go.RowKit Go.Shelf

def one1 (_ : Nat) : Int := 1
theorem own_one {w : World} {G : Nat} {n : Int} (h : w.heap[G]? = some (.cells #[.int .i64 1, .int .i64 n] 60 (0, 0))) : OwnU w G 1 1 one1 (fun _ => n) :=
  ⟨_, h, by simp, fun i hi => by
    obtain rfl : i = 0 := by omega
    exact ⟨rfl, rfl⟩⟩
theorem alloc_two (w : World) (o o' : Obj) : ((w.alloc o).alloc o').heap[w.heap.size + 1]? = some o' := by
  have h := heap_alloc_new (w.alloc o) o'
  rwa [show (w.alloc o).heap.size = w.heap.size + 1 from by simp] at h
def litN (n : Int) : Nat := if litB n then 1 else 0

end Go.Proofs.YtbebdhjhlheboaaDoor

namespace Go.Proofs.YtbebdhjhlheboaaDoor
open Go.ChangeShapes Go.WideShapes Go.ChangeAt Go.RowKit

/-- The literal of a variable among the first k, the last one; 0 if there is none. -/
def seenA (lt : Nat → Int) : Nat → Nat → Int
  | 0, _ => 0
  | k + 1, v => if ab (lt k) = (v : Int) then lt k else seenA lt k v
/-- The first k are literals, none with its negation. -/
def okD (lt : Nat → Int) : Nat → Bool
  | 0 => true
  | k + 1 => okD lt k && (litB (lt k) && !(seenA lt k (ab (lt k)).toNat == -(lt k)))
def clAt (x : Int) : List (Int × Int) := if x = 0 then [] else [(1, x)]
def clR (f : Nat → Int) : Nat → List (Int × Int)
  | 0 => []
  | v + 1 => clR f v ++ clAt (f (v + 1))
def clB (n : Nat) (lt : Nat → Int) : Bool := decide (n ≤ 40) && okD lt n
def clF (n : Nat) (lt : Nat → Int) : List (Int × Int) := clR (seenA lt n) 12
def clN (n : Nat) (lt : Nat → Int) : Nat := if clB n lt then (clF n lt).length else 0
def clD (n : Nat) (lt : Nat → Int) : Int := if clB n lt then 1 else 0

theorem ab_split {x y : Int} (h : ab x = ab y) : x = y ∨ x = -y := by
  unfold ab at h
  split at h <;> split at h <;> omega
theorem ab_neg (x : Int) : ab (-x) = ab x := by
  unfold ab
  split <;> split <;> omega

theorem seenA_spec (lt : Nat → Int) (k v : Nat) : (seenA lt k v = 0 ∧ ∀ i, i < k → ab (lt i) ≠ v) ∨ ∃ i, i < k ∧ seenA lt k v = lt i ∧ ab (lt i) = v := by
  induction k with
  | zero => exact .inl ⟨rfl, fun i hi => absurd hi (by omega)⟩
  | succ k ih =>
    by_cases h : ab (lt k) = (v : Int)
    · exact .inr ⟨k, by omega, if_pos h, h⟩
    · have e : seenA lt (k + 1) v = seenA lt k v := if_neg h
      rw [e]
      rcases ih with ⟨h0, h1⟩ | ⟨i, hi, h0, h1⟩
      · refine .inl ⟨h0, fun i hi => ?_⟩
        by_cases e : i = k
        · subst e; exact h
        · exact h1 i (by omega)
      · exact .inr ⟨i, by omega, h0, h1⟩

theorem okD_iff {lt : Nat → Int} {n : Nat} : okD lt n = true ↔ (∀ i, i < n → litB (lt i) = true) ∧ ∀ i j, i < n → j < n → ab (lt i) = ab (lt j) → lt i = lt j := by
  induction n with
  | zero => exact ⟨fun _ => ⟨fun i hi => absurd hi (by omega), fun i j hi => absurd hi (by omega)⟩, fun _ => rfl⟩
  | succ k ih =>
    have step : okD lt (k + 1) = true ↔ okD lt k = true ∧ litB (lt k) = true ∧ seenA lt k (ab (lt k)).toNat ≠ -(lt k) := by
      show (okD lt k && (litB (lt k) && !(seenA lt k (ab (lt k)).toNat == -(lt k)))) = true ↔ _
      simp
    rw [step, ih]
    constructor
    · rintro ⟨⟨h1, h2⟩, hl, hs⟩
      have hp := ab_pos hl
      have hL : ∀ i, i < k + 1 → litB (lt i) = true := fun i hi => by
        by_cases e : i = k
        · subst e; exact hl
        · exact h1 i (by omega)
      have key : ∀ i, i < k → ab (lt i) = ab (lt k) → lt i = lt k := fun i hi e => by
        rcases seenA_spec lt k (ab (lt k)).toNat with ⟨_, hno⟩ | ⟨i', hi', hs', he'⟩
        · exact absurd e (by have := hno i hi; omega)
        · have e1 : lt i = lt i' := h2 i i' hi hi' (by omega)
          rw [hs'] at hs
          rcases ab_split e with h | h
          · exact h
          · rw [e1] at h; exact absurd h hs
      refine ⟨hL, fun i j hi hj e => ?_⟩
      by_cases ei : i = k
      · by_cases ej : j = k
        · rw [ei, ej]
        · rw [ei] at e ⊢; exact (key j (by omega) e.symm).symm
      · by_cases ej : j = k
        · rw [ej] at e ⊢; exact key i (by omega) e
        · exact h2 i j (by omega) (by omega) e
    · rintro ⟨h1, h2⟩
      have hl := h1 k (by omega)
      have h0 := (litB_iff.1 hl).1
      refine ⟨⟨fun i hi => h1 i (by omega), fun i j hi hj => h2 i j (by omega) (by omega)⟩, hl, fun hs => ?_⟩
      rcases seenA_spec lt k (ab (lt k)).toNat with ⟨hz, _⟩ | ⟨i, hi, hs', he⟩
      · omega
      · have e : lt i = -(lt k) := hs'.symm.trans hs
        have := h2 i k (by omega) (by omega) (by rw [e, ab_neg])
        omega

theorem seenA_ab {lt : Nat → Int} {n v : Nat} (h : seenA lt n v ≠ 0) : ab (seenA lt n v) = v := by
  rcases seenA_spec lt n v with ⟨h0, _⟩ | ⟨i, _, h1, h2⟩
  · exact absurd h0 h
  · rw [h1, h2]
theorem seenA_mem {lt : Nat → Int} {n v : Nat} (h : seenA lt n v ≠ 0) : ∃ i, i < n ∧ lt i = seenA lt n v := by
  rcases seenA_spec lt n v with ⟨h0, _⟩ | ⟨i, hi, h1, _⟩
  · exact absurd h0 h
  · exact ⟨i, hi, h1.symm⟩

theorem clR_length (f : Nat → Int) (v : Nat) : (clR f v).length ≤ v := by
  induction v with
  | zero => exact Nat.le_refl _
  | succ v ih =>
    show (clR f v ++ clAt (f (v + 1))).length ≤ _
    rw [List.length_append]
    have : (clAt (f (v + 1))).length ≤ 1 := by unfold clAt; split <;> simp
    omega
theorem clR_one (f : Nat → Int) (v : Nat) : ∀ r ∈ clR f v, r.1 = 1 := by
  induction v with
  | zero => intro r h; cases h
  | succ v ih =>
    intro r h
    rcases List.mem_append.1 h with h | h
    · exact ih r h
    · unfold clAt at h
      split at h
      · cases h
      · simp at h; rw [h]
theorem clR_mem (f : Nat → Int) (v : Nat) (x : Int) : x ∈ (clR f v).map (·.2) ↔ x ≠ 0 ∧ ∃ u, 1 ≤ u ∧ u ≤ v ∧ f u = x := by
  induction v with
  | zero => exact ⟨fun h => (by cases h), fun ⟨_, u, h1, h2, _⟩ => (by omega)⟩
  | succ v ih =>
    show x ∈ (clR f v ++ clAt (f (v + 1))).map (·.2) ↔ _
    rw [List.map_append, List.mem_append, ih]
    constructor
    · rintro (⟨h0, u, h1, h2, h3⟩ | h)
      · exact ⟨h0, u, h1, by omega, h3⟩
      · unfold clAt at h
        split at h
        · cases h
        · rename_i hne
          simp at h
          exact ⟨by rw [h]; exact hne, v + 1, by omega, by omega, h.symm⟩
    · rintro ⟨h0, u, h1, h2, h3⟩
      by_cases e : u = v + 1
      · right
        subst e
        unfold clAt
        rw [if_neg (by rw [h3]; exact h0)]
        simp [h3]
      · exact .inl ⟨h0, u, h1, by omega, h3⟩
theorem clR_asc (lt : Nat → Int) (n v : Nat) : ((clR (seenA lt n) v).map (·.2)).Pairwise (fun a b => ab a < ab b) := by
  induction v with
  | zero => exact List.Pairwise.nil
  | succ v ih =>
    show ((clR (seenA lt n) v ++ clAt (seenA lt n (v + 1))).map (·.2)).Pairwise _
    rw [List.map_append, List.pairwise_append]
    refine ⟨ih, ?_, fun a ha b hb => ?_⟩
    · unfold clAt
      split
      · exact List.Pairwise.nil
      · simp
    · obtain ⟨h0, u, h1, h2, rfl⟩ := (clR_mem _ _ _).1 ha
      unfold clAt at hb
      split at hb
      · cases hb
      · rename_i hne
        simp at hb
        subst hb
        rw [seenA_ab h0, seenA_ab hne]
        omega

/-- Two rows that ascend strictly and have the same members are one. -/
theorem asc_eq : ∀ (A B : List Int), A.Pairwise (fun a b => ab a < ab b) → B.Pairwise (fun a b => ab a < ab b) → (∀ x, x ∈ A ↔ x ∈ B) → A = B
  | [], [], _, _, _ => rfl
  | [], b :: B, _, _, h => absurd ((h b).2 (List.mem_cons_self ..)) (by simp)
  | a :: A, [], _, _, h => absurd ((h a).1 (List.mem_cons_self ..)) (by simp)
  | a :: A, b :: B, hA, hB, h => by
    obtain ⟨ha, hA'⟩ := List.pairwise_cons.1 hA
    obtain ⟨hb, hB'⟩ := List.pairwise_cons.1 hB
    have e : a = b := by
      rcases List.mem_cons.1 ((h a).1 (List.mem_cons_self ..)) with e | h1
      · exact e
      · rcases List.mem_cons.1 ((h b).2 (List.mem_cons_self ..)) with e | h2
        · exact e.symm
        · have := ha b h2
          have := hb a h1
          omega
    subst e
    rw [asc_eq A B hA' hB' fun x => ⟨fun hx => ?_, fun hx => ?_⟩]
    · rcases List.mem_cons.1 ((h x).1 (List.mem_cons_of_mem _ hx)) with e | h1
      · subst e; have := ha x hx; omega
      · exact h1
    · rcases List.mem_cons.1 ((h x).2 (List.mem_cons_of_mem _ hx)) with e | h1
      · subst e; have := hb x hx; omega
      · exact h1

theorem vtB_lt {c l : Nat → Int} {n : Nat} (h : vtB c l n = true) {i j : Nat} (hij : i < j) (hj : j < n) : ab (l i) < ab (l j) := by
  induction j with
  | zero => omega
  | succ j ih =>
    have h1 := (okAt_iff.1 (vtB_at h hj)).2.2.2
    have h2 : ab (l j) < ab (l (j + 1)) := h1
    by_cases e : i = j
    · subst e; exact h2
    · have := ih (by omega) (by omega); omega
theorem vtB_of {c l : Nat → Int} {n : Nat} (h : ∀ k, k < n → okAt c l k = true) : vtB c l n = true := by
  induction n with
  | zero => rfl
  | succ n ih =>
    unfold vtB
    rw [ih (fun k hk => h k (by omega)), h n (Nat.lt_succ_self n)]
    rfl

/-- What sorting by the variable and compacting leave: the members of the row, ascending, no neighbours alike. -/
structure Sorted1 (lt : Nat → Int) (n : Nat) (K : List Int) : Prop where
  mem : ∀ x, x ∈ K ↔ ∃ i, i < n ∧ lt i = x
  asc : K.Pairwise (fun a b => ab a ≤ ab b)
  one : (∀ a ∈ K, ∀ b ∈ K, ab a = ab b → a = b) → K.Pairwise (fun a b => ab a < ab b)

def getK (K : List Int) (i : Nat) : Int := K.getD i 0
theorem getK_at {K : List Int} {i : Nat} (h : i < K.length) : getK K i = K[i] := by
  simp [getK, List.getD, List.getElem?_eq_getElem h]

theorem clause_same {lt : Nat → Int} {n : Nat} {K : List Int} (h : Sorted1 lt n K) (hl : ∀ i, i < n → litB (lt i) = true) : validB K.length one1 (getK K) 1 = okD lt n := by
  have hlit : ∀ x ∈ K, litB x = true := fun x hx => by
    obtain ⟨i, hi, e⟩ := (h.mem x).1 hx
    rw [← e]; exact hl i hi
  have hv : validB K.length one1 (getK K) 1 = vtB one1 (getK K) K.length := by simp [validB]
  rw [hv, Bool.eq_iff_iff, okD_iff]
  constructor
  · intro hvt
    refine ⟨hl, fun i j hi hj e => ?_⟩
    obtain ⟨a, ha, ea⟩ := List.getElem_of_mem ((h.mem (lt i)).2 ⟨i, hi, rfl⟩)
    obtain ⟨b, hb, eb⟩ := List.getElem_of_mem ((h.mem (lt j)).2 ⟨j, hj, rfl⟩)
    rw [← ea, ← eb, ← getK_at ha, ← getK_at hb] at e ⊢
    rcases Nat.lt_trichotomy a b with hab | hab | hab
    · have := vtB_lt hvt hab hb; omega
    · rw [hab]
    · have := vtB_lt hvt hab ha; omega
  · rintro ⟨_, h2⟩
    have hp := h.one fun a ha b hb e => by
      obtain ⟨i, hi, rfl⟩ := (h.mem a).1 ha
      obtain ⟨j, hj, rfl⟩ := (h.mem b).1 hb
      exact h2 i j hi hj e
    refine vtB_of fun k hk => okAt_iff.2 ⟨by rw [getK_at hk]; exact hlit _ (List.getElem_mem hk), by show (1 : Int) ≤ 1; omega, by show (1 : Int) ≤ 1000; omega, ?_⟩
    cases k with
    | zero => exact (by have := ab_pos (hlit _ (List.getElem_mem hk)); rw [← getK_at hk] at this; show (0 : Int) < _; omega)
    | succ k =>
      show ab (getK K k) < ab (getK K (k + 1))
      rw [getK_at hk, getK_at (show k < K.length by omega)]
      exact List.pairwise_iff_getElem.1 hp k (k + 1) (by omega) hk (by omega)

theorem clause_rows {lt : Nat → Int} {n : Nat} {K : List Int} (h : Sorted1 lt n K) (hok : okD lt n = true) : K = (clF n lt).map (·.2) := by
  obtain ⟨hl, h2⟩ := okD_iff.1 hok
  refine asc_eq _ _ (h.one fun a ha b hb e => ?_) (clR_asc lt n 12) fun x => ?_
  · obtain ⟨i, hi, rfl⟩ := (h.mem a).1 ha
    obtain ⟨j, hj, rfl⟩ := (h.mem b).1 hb
    exact h2 i j hi hj e
  · rw [h.mem, show (clF n lt).map (·.2) = (clR (seenA lt n) 12).map (·.2) from rfl, clR_mem]
    constructor
    · rintro ⟨i, hi, rfl⟩
      have hp := ab_pos (hl i hi)
      refine ⟨(litB_iff.1 (hl i hi)).1, (ab (lt i)).toNat, by omega, by omega, ?_⟩
      rcases seenA_spec lt n (ab (lt i)).toNat with ⟨_, hno⟩ | ⟨j, hj, hs, he⟩
      · exact absurd (hno i hi) (by omega)
      · rw [hs]; exact h2 j i hj hi (by omega)
    · rintro ⟨h0, u, _, _, rfl⟩
      exact seenA_mem h0

theorem getK_rows (R : List (Int × Int)) : getK (R.map (·.2)) = rL R := by
  funext i
  simp only [getK, rL, List.getD, List.getElem?_map]
  cases R[i]? <;> rfl
theorem rows_flat {R : List (Int × Int)} (h : ∀ r ∈ R, r.1 = 1) : rcells R = flat one1 (rL R) R.length := by
  rw [rcells_flat]
  refine flat_congr fun i hi => ⟨?_, rfl⟩
  show (R.getD i (0, 0)).1 = 1
  rw [List.getD, List.getElem?_eq_getElem hi]
  exact h _ (List.getElem_mem hi)

/-- What is left of a sorted row by compaction. -/
theorem sorted_compact {lt : Nat → Int} {n : Nat} {d d' : Array Int} (lf : Int → Int → Bool) (hlf : ∀ x y, litB x = true → litB y = true → lf x y = decide (ab x < ab y))
    (hn : d.size = n) (hd : ∀ i, i < n → d[i]! = lt i) (hl : ∀ i, i < n → litB (lt i) = true) (hp : Go.Sort.PermIn 0 d.size d d') (hs : Go.Sort.SortedIn lf 0 d.size d') :
    Sorted1 lt n (Go.Lib.compactUpTo d' d'.size) := by
  obtain ⟨hsz, _, hperm⟩ := hp
  have e1 : (d'.extract 0 d.size) = d' := by rw [← hsz]; simp
  have e2 : (d.extract 0 d.size) = d := by simp
  rw [e1, e2] at hperm
  have hmem' : ∀ x, (∃ j, j < n ∧ d'[j]! = x) ↔ ∃ i, i < n ∧ lt i = x := fun x => by
    have h1 := hperm.mem_iff (a := x)
    constructor
    · rintro ⟨j, hj, e⟩
      have hx : x ∈ d'.toList := by
        rw [← e, getElem!_pos d' j (by omega)]
        exact (Array.mem_toList_iff).2 (Array.getElem_mem _)
      obtain ⟨i, hi, e'⟩ := List.getElem_of_mem (h1.1 hx)
      have hi' : i < d.size := by simpa using hi
      refine ⟨i, by omega, ?_⟩
      rw [← hd i (by omega), getElem!_pos d i hi', ← e']
      simp
    · rintro ⟨i, hi, e⟩
      have hx : x ∈ d.toList := by
        rw [← e, ← hd i hi, getElem!_pos d i (by omega)]
        exact (Array.mem_toList_iff).2 (Array.getElem_mem _)
      obtain ⟨j, hj, e'⟩ := List.getElem_of_mem (h1.2 hx)
      have hj' : j < d'.size := by simpa using hj
      refine ⟨j, by omega, ?_⟩
      rw [getElem!_pos d' j hj', ← e']
      simp
  have hlit : ∀ j, j < n → litB d'[j]! = true := fun j hj => by
    obtain ⟨i, hi, e⟩ := (hmem' d'[j]!).1 ⟨j, hj, rfl⟩
    rw [← e]; exact hl i hi
  have hle : ∀ i j, i ≤ j → j < n → ab d'[i]! ≤ ab d'[j]! := fun i j hij hj => by
    by_cases e : i = j
    · subst e; exact Int.le_refl _
    · have h3 := hs i j (by omega) (by omega) (by omega)
      rw [hlf _ _ (hlit j hj) (hlit i (by omega))] at h3
      have := of_decide_eq_false h3
      omega
  have hdn : d'.size = n := by omega
  have hback : ∀ j, j < n → d'[j]! ∈ Go.Lib.compactUpTo d' d'.size := by
    intro j
    induction j with
    | zero =>
      intro hj
      exact List.mem_map.2 ⟨0, List.mem_filter.2 ⟨List.mem_range.2 (by omega), by simp [Go.Lib.keeps]⟩, rfl⟩
    | succ j ih =>
      intro hj
      by_cases hk : Go.Lib.keeps d' (j + 1) = true
      · exact List.mem_map.2 ⟨j + 1, List.mem_filter.2 ⟨List.mem_range.2 (by omega), hk⟩, rfl⟩
      · have e : d'[j + 1]! = d'[j]! := by
          simp [Go.Lib.keeps] at hk
          exact hk
        rw [e]
        exact ih (by omega)
  have hout : ∀ x, x ∈ Go.Lib.compactUpTo d' d'.size → ∃ j, j < n ∧ d'[j]! = x := fun x hx => by
    obtain ⟨j, hj, e⟩ := List.mem_map.1 hx
    exact ⟨j, by have := List.mem_range.1 (List.mem_filter.1 hj).1; omega, e⟩
  refine ⟨fun x => ⟨fun hx => (hmem' x).1 (hout x hx), fun hx => ?_⟩, ?_, fun hone => ?_⟩
  · obtain ⟨j, hj, e⟩ := (hmem' x).2 hx
    rw [← e]; exact hback j hj
  · unfold Go.Lib.compactUpTo
    rw [List.pairwise_map, List.pairwise_filter]
    refine (List.pairwise_lt_range (n := d'.size)).imp_of_mem fun {a b} ha hb hab _ _ => hle a b (by omega) (by have := List.mem_range.1 hb; omega)
  · unfold Go.Lib.compactUpTo
    rw [List.pairwise_map, List.pairwise_filter]
    refine (List.pairwise_lt_range (n := d'.size)).imp_of_mem fun {a b} ha hb hab _ hkb => ?_
    have hbn : b < n := by have := List.mem_range.1 hb; omega
    have hne : d'[b]! ≠ d'[b - 1]! := by
      have h5 := of_decide_eq_true hkb
      rcases h5 with h5 | h5
      · omega
      · exact h5
    have h6 := hle a (b - 1) (by omega) (by omega)
    have h7 := hle (b - 1) b (by omega) hbn
    have h8 : ab d'[b]! ≠ ab d'[b - 1]! := fun e => hne (hone _ (hback b hbn) _ (hback (b - 1) (by omega)) e)
    omega
end Go.Proofs.YtbebdhjhlheboaaDoor

namespace Go.Proofs.YtbebdhjhlheboaaDoor
open Go.ChangeShapes Go.WideShapes Go.ChangeAt Go.RowKit Go.Shelf

attribute [local go_sem] Oper.semAt_some

/-- The first k of a row. -/
def vlst (v : Nat → Int) : Nat → List Int
  | 0 => []
  | k + 1 => vlst v k ++ [v k]
theorem vlst_length (v : Nat → Int) (k : Nat) : (vlst v k).length = k := by
  induction k with
  | zero => rfl
  | succ k ih => simp [vlst, ih]
theorem vlst_prefix (v : Nat → Int) {k n : Nat} (h : k ≤ n) : vlst v k <+: vlst v n := by
  induction n with
  | zero =>
    have : k = 0 := by omega
    subst this; exact List.prefix_refl _
  | succ n ih =>
    by_cases e : k = n + 1
    · subst e; exact List.prefix_refl _
    · exact (ih (by omega)).trans ⟨[v n], rfl⟩
theorem vlst_get (v : Nat → Int) {n i : Nat} (h : i < n) : (vlst v n)[i]? = some (v i) := by
  induction n with
  | zero => omega
  | succ n ih =>
    show (vlst v n ++ [v n])[i]? = _
    by_cases e : i = n
    · subst e
      rw [List.getElem?_append_right (by rw [vlst_length]; exact Nat.le_refl _), vlst_length]
      simp
    · rw [List.getElem?_append_left (by rw [vlst_length]; omega)]
      exact ih (by omega)

set_option maxRecDepth 100000 in
set_option maxHeartbeats 1000000 in
theorem vals1_in (F : Fence) (n : Nat) (h58 : F.fn 103) (hro : F.round = none) (hn : 1 ≤ n) (l B1 n₀ : Nat) (A : Option Addr) (len cap : Nat) (v : Nat → Int) (hlen : len ≤ 1048576) (J Jx : List Int → World → Prop)
    (hY : ∀ pre x W, J pre W → pre.length < len → YieldAt F (n - 1) Tryd.prog l #[.int .i64 x] W fun e W' =>
      (e = .returned (.bool true) ∧ J (pre ++ [x]) W' ∧ Below n₀ W W') ∨ (e = .returned (.bool false) ∧ Jx (pre ++ [x]) W'))
    (W : World) (hn0 : n₀ ≤ W.heap.size) (ht : W.cell? ⟨B1, 0, none⟩ = some (.slice A len cap))
    (hr : RdI W n₀ A len v) (h0 : J [] W) :
    CallsIn F n Tryd.prog 103 #[.func (.yield l) #[] #[], .pointer (some ⟨B1, 0, none⟩)] W fun e W' => (∃ v, e = .returned v) ∧
      ((∃ ys, ys = vlst v len ∧ J ys W') ∨ (∃ pre, pre <+: vlst v len ∧ Jx pre W')) := by
  refine callsIn_of_wp Tryd.func103 rfl h58 ?_ hro
  simp only [Tryd.ntmps103, List.size_toArray, List.length_cons, List.length_nil, Nat.reduceAdd, Nat.reduceSub, Array.replicate_succ, Array.replicate_zero, List.push_toArray, List.append_toArray, List.nil_append, List.cons_append]
  gi_wp2
  gi_loopw [7] (fun i wr => ∃ k : Nat, k ≤ len ∧ i = .int .i64 k ∧ J (vlst v k) wr ∧ Below n₀ W wr) (fun i _ => len - (intOf i).toNat)
  case atStart => exact ⟨0, Nat.zero_le _, rfl, h0, Below.refl _ _⟩
  case round =>
    obtain ⟨k, hk, rfl, hJs, hb⟩ := hrel
    by_cases hlt : k < len
    · obtain ⟨b, off, rfl, hbl, hcs⟩ := (hr.below hb) (by omega)
      have hc1 := hcs k hlt
      have hzw : n₀ ≤ wr.heap.size := Nat.le_trans hn0 hb.size
      have hzb : b < wr.heap.size := by omega
      have hll : (vlst v k).length < len := by rw [vlst_length]; exact hlt
      clear hcs hr
      obtain ⟨fn, tmps, assign, body, hy, hR⟩ := hY (vlst v k) (v k) wr hJs hll
      gi_wp2
      refine hR.mono ?_
      rintro e W3 (⟨rfl, hJ3, hk3⟩ | ⟨rfl, hJx3⟩)
      · gi_wp2
        go_roundw
        case rel => exact ⟨k + 1, by omega, by go_num, hJ3, hb.trans hk3⟩
        case measure => simp [intOf]; omega
      · gi_wp2
        refine bodyPost_ret (results_none rfl _ _ _) rfl ?_
        exact ⟨⟨_, rfl⟩, .inr ⟨_, vlst_prefix v hlt, hJx3⟩⟩
    · have e : k = len := by omega
      subst e
      gi_wp2
      go_end0
      exact ⟨⟨_, rfl⟩, .inl ⟨_, rfl, hJs⟩⟩

theorem vals_stops (F : Fence) (n : Nat) (h58 : F.fn 103) (hro : F.round = none) (hn : 1 ≤ n) (B1 n₀ : Nat) (A : Option Addr) (len cap : Nat) (v : Nat → Int) (hlen : len ≤ 1048576) (w : World)
    (hn0 : n₀ ≤ w.heap.size) (hB1 : B1 < n₀) (ht : w.cell? ⟨B1, 0, none⟩ = some (.slice A len cap)) (hr : RdI w n₀ A len v) :
    SeqStopsK F n Tryd.prog 103 #[.pointer (some ⟨B1, 0, none⟩)] (fun x : Int => #[Value.int .i64 x]) (Below n₀) (fun ys => ys = vlst v len) (fun pre => pre <+: vlst v len) len w :=
  fun l J Jx W hW _ _ hY h0 =>
    have hW0 : Below n₀ w W := hW.mono hn0
    vals1_in F n h58 hro hn l B1 n₀ A len cap v hlen J Jx hY W (Nat.le_trans hn0 hW.size)
      ((hW0.cell (p := ⟨B1, 0, none⟩) hB1).trans ht) (hr.below hW0) h0

/-- What the loop's invariant says: the box holds a slice that owns what has come, in a block of the call's own; nil while nothing has come. -/
structure ApX (w : World) (ss : List Int) (W : World) : Prop where
  box : ∃ u, W.cell? ⟨w.heap.size, 0, none⟩ = some u ∧ W.frozen? ⟨w.heap.size, 0, none⟩ = false ∧ W.ownsRow (w.heap.size + 1) 3 1 u ss.length (ss.map (Value.int .i64)) ∧ (ss = [] → u = .slice none 0 0)
  bel : Below w.heap.size w W

theorem row_formD {w : World} {B : Nat} {e : TypeId} {s : Nat} {v : Value} {n : Nat} {xs : List Value} (h : w.ownsRow B e s v (n + 1) xs) : ∃ g cap, v = .slice (some ⟨g, 0, none⟩) (n + 1) cap := by
  rcases h.2 with ⟨rfl, hn⟩ | ⟨g, cap, cur, rfl, _⟩
  · omega
  · exact ⟨g, cap, rfl⟩
theorem row_cellsD {w : World} {B : Nat} {e : TypeId} {s : Nat} {v : Value} {n : Nat} {xs : List Value} (h : w.ownsRow B e s v n xs) : ∀ (j : Nat) (o : Obj), v.ownBlock = some j → w.heap[j]? = some o → o.isCells = true := by
  intro j o ej hj
  rcases h.2 with ⟨rfl, _⟩ | ⟨g, cap, cur, rfl, _, hh, _⟩
  · cases ej
  · obtain rfl : g = j := by simpa [Value.ownBlock] using ej
    rw [hh] at hj
    cases hj
    rfl
theorem row_at {w : World} {B : Nat} {e : TypeId} {s : Nat} {v : Value} {n : Nat} {xs : List Value} (h : w.ownsRow B e s v n xs) {g : Nat} (hg : v.ownBlock = some g) : ∃ o : Obj, w.heap[g]? = some o ∧ o.isCells = true := by
  rcases h.2 with ⟨rfl, _⟩ | ⟨g', cap, cur, rfl, _, hh, _⟩
  · cases hg
  · obtain rfl : g' = g := by simpa [Value.ownBlock] using hg
    exact ⟨_, hh, rfl⟩
theorem row_sameD {w w' : World} {B : Nat} {e : TypeId} {s : Nat} {v : Value} {n : Nat} {xs : List Value} (h : w.ownsRow B e s v n xs) (hg : ∀ g, v.ownBlock = some g → w'.heap[g]? = w.heap[g]?) : w'.ownsRow B e s v n xs := by
  refine ⟨h.1, ?_⟩
  rcases h.2 with hh | ⟨g, cap, cur, rfl, hge, hh, hr⟩
  · exact .inl hh
  · exact .inr ⟨g, cap, cur, rfl, hge, (hg g rfl).trans hh, hr⟩
theorem apX_own (w : World) : OwnFrom (w.heap.size + 1) (ApX w) := fun s W W' row h hg hr => by
  obtain ⟨u, hc, hf, ho, hn⟩ := h.box
  have hrow : ∀ r, row = some r → ∃ o : Obj, W.heap[r]? = some o ∧ o.isCells = false := fun r e => (hr r e).2
  refine ⟨⟨u, cell_kept hc hg hrow, (frozen_kept hc hg hrow).trans hf, row_sameD ho (fun g e => ?_), hn⟩, h.bel.grown hg h.bel.size (fun k e => by have := (hr k e).1; omega)⟩
  obtain ⟨o, h1, h2⟩ := row_at ho e
  exact grownBy_keeps_cells hg hrow h1 h2

set_option maxRecDepth 100000 in
set_option maxHeartbeats 2000000 in
theorem appendSeq_in (F : Fence) (n : Nat) (h50 : F.fn 106) (h58 : F.fn 103) (hro : F.round = none) (hn : 3 ≤ n) (B1 : Nat) (A : Option Addr) (len cap : Nat) (v : Nat → Int) (hlen : len ≤ 1048576) (w : World)
    (hB1 : B1 < w.heap.size) (ht : w.cell? ⟨B1, 0, none⟩ = some (.slice A len cap)) (hr : RdI w w.heap.size A len v) :
    CallsIn F n Tryd.prog 106 #[.slice none 0 0, .func (.func 103) #[] #[.pointer (some ⟨B1, 0, none⟩)]] w fun e W' => ∃ u, e = .returned u ∧ W'.ownsRow (w.heap.size + 1) 3 1 u len ((vlst v len).map (Value.int .i64)) ∧ (len = 0 → u = .slice none 0 0) ∧ Below w.heap.size w W' := by
  have h1 : 1 ≤ n := by omega
  have hseq := vals_stops F (n - 1) h58 hro (by omega) B1 w.heap.size A len cap v hlen w (Nat.le_refl _) hB1 ht hr
  clear ht hr
  have Hseq := Lib.hid hseq
  clear hseq
  obtain ⟨i0, hi, hz0, hz1, hz2⟩ := info_parts Tryd.infoInt
  refine callsIn_of_wp_marks Tryd.func106 rfl h50 ?_ hro
  simp only [Tryd.ntmps106, List.size_toArray, List.length_cons, List.length_nil, Nat.reduceAdd, Nat.reduceSub, Array.replicate_succ, Array.replicate_zero, List.push_toArray, List.append_toArray, List.nil_append, List.cons_append]
  gi_wp2
  have hbox : ApX w [] (w.alloc (.cells #[.slice none 0 0] 27)) := ⟨⟨_, by go_simp, by go_simp, World.ownsRow_nil _ _ _ _, fun _ => rfl⟩, bl_alloc (Below.refl _ _) _⟩
  refine wpIn_rangeFunc_ownF hro h1 (gf := 103) (lb := #[.pointer (some ⟨B1, 0, none⟩)]) rfl h58 (enters_of Tryd.func103 (by kernel_rfl) rfl)
    Hseq.out belowK_t (belowK_b (by simp)) (bl_alloc (Below.refl _ _) _) (fun _ => rfl)
    (ApX w)
    (fun _ _ _ => False)
    (by rw [World.size_alloc]; exact apX_own w)
    (fun _ _ _ _ _ hs _ _ => hs)
    hbox
    (fun x => { tmps := #[.slice none 0 0, .func (.func 103) #[] #[.pointer (some ⟨B1, 0, none⟩)], .pointer (some ⟨w.heap.size, 0, none⟩), undef, .slice none 0 0, .int .i64 x, .func (.func 103) #[] #[.pointer (some ⟨B1, 0, none⟩)], .int .i64 x, undef, undef, undef, undef, undef], defers := [] }) ?assign ?body ?done ?stop
  case assign =>
    intro l x W K hK
    gi_wp2
    exact hK
  case body =>
    rintro l pre x W ⟨⟨u, hc, hf, ho, hn⟩, hb⟩ hlen2
    have hbl : w.heap.size < W.heap.size := World.block_lt_of_cell? W ⟨w.heap.size, 0, none⟩ hc
    have far : some w.heap.size ≠ u.ownBlock := fun e => by have := (ho.lt _ e.symm).1; omega
    have hal := bl_alloc (Below.refl W.heap.size W) (.cells #[.int .i64 x] 3)
    have c1 := Lib.hid (kc hal hc)
    have f1 := Lib.hid (kf hal hbl hf)
    have hoA := Lib.hid (row_sameD ho (fun g e => by
      obtain ⟨o, h1, _⟩ := row_at ho e
      exact hal.block g (Array.getElem?_eq_some_iff.1 h1).1))
    have Far := Lib.hid far
    have Hi := Lib.hid hi
    have Hz0 := Lib.hid hz0
    have Hz1 := Lib.hid hz1
    have Hz2 := Lib.hid hz2
    have HB := Lib.hid hb
    have News := Lib.hid (World.news_of_block (w := W.alloc (.cells #[.int .i64 x] 3)) (B := W.heap.size) (cs := #[.int .i64 x]) (t := 3) (fr := (0, 0)) (heap_alloc_new W _))
    clear hal hi hz0 hz1 hz2 hb far hn ho hbox
    gi_wp2_with (gi_at_builtin; refine wpListIn_append_own _ (by rfl) _ _ 27 (by rfl) (w.heap.size + 1) 3 i0 _ 1 8 Tryd.underlying27 Hi.out Hz0.out Hz1.out Hz2.out rfl (by omega) u pre.length _ (by rfl) hoA.out ⟨W.heap.size, 0, none⟩ 1 1 [.int .i64 x] (by rfl) (by rfl) News.out (by simp [Value.oneCell']) (by unfold maxLen; omega) (by omega) (by simp; omega) ?_; intro v' w3 hown' hg3 hnil3; have t0 := hg3.cell (a := ⟨w.heap.size, 0, none⟩) c1.out Far.out; have u0 := (hg3.frozen_far ⟨w.heap.size, 0, none⟩ (by simp; omega) Far.out).trans f1.out; have HG := Lib.hid hg3; have HO := Lib.hid hown'; obtain ⟨g, cp, rfl⟩ := row_formD hown'; clear hown' hg3 hnil3)
    refine ⟨((KeepsOthers.alloc _ _).trans (KeepsOthers.of_grownBy HG.out (row_cellsD hoA.out))).trans (KeepsOthers.setCell _ _ _), ?_, ⟨⟨_, World.cell?_setCell_same' _ _ _ (by rw [t0]; rfl), by rw [World.frozen?_setCell]; exact u0, ?_, fun h => by simp at h⟩, ?_⟩⟩
    · exact (((Below.refl w.heap.size W).alloc (by omega) _).grown HG.out (by simp; omega) (fun k e => by have := (hoA.out.lt k e).1; omega)).setCell (Nat.le_refl _) _
    · rw [List.length_append, List.map_append]
      exact ownsRow_setCell_below HO.out (by show w.heap.size < w.heap.size + 1; omega) _
    · exact ((HB.out.alloc (by omega) _).grown HG.out (by simp; omega) (fun k e => by have := (hoA.out.lt k e).1; omega)).setCell (Nat.le_refl _) _
  case done =>
    rintro D ys W hD rfl ⟨⟨u, hc, hf, ho, hn⟩, hb⟩ hK
    have HO := Lib.hid ho
    have HN := Lib.hid hn
    have HB := Lib.hid hb
    clear ho hn hb hbox
    gi_wp2
    refine ⟨by simp, .inl ⟨_, _, rfl, run_takeDeferred hK, ?_⟩⟩
    refine ⟨_, results_tmp rfl _ _ _, u, rfl, ?_, fun h => HN.out (by rw [h]; rfl), HB.out.trans (belowK_b (w := w) (Nat.le_refl _) W D _ _ (by simp at hD; omega) hK rfl rfl)⟩
    have h2 := HO.out
    rw [vlst_length] at h2
    refine row_sameD h2 fun g e => World.putObj_heap_other fun e2 => ?_
    obtain ⟨o, h3, h4⟩ := row_at h2 e
    subst e2
    rw [hK] at h3
    cases h3
    cases h4
  case stop =>
    rintro D c pre W _ _ h _
    exact h.elim
end Go.Proofs.YtbebdhjhlheboaaDoor

namespace Go.Proofs.YtbebdhjhlheboaaDoor
open Go.ChangeShapes Go.WideShapes Go.ChangeAt Go.RowKit

/-- m rows from place i on. -/
def lst (c l : Nat → Int) : Nat → Nat → List (Int × Int)
  | _, 0 => []
  | i, m + 1 => (c i, l i) :: lst c l (i + 1) m
/-- The pairs, with k rounds to spare. -/
def mrg : Nat → List (Int × Int) → List (Int × Int) → List ((Int × Int) × (Int × Int))
  | 0, _, _ => []
  | _ + 1, [], [] => []
  | k + 1, x :: xs, [] => (x, (0, 0)) :: mrg k xs []
  | k + 1, [], y :: ys => ((0, 0), y) :: mrg k [] ys
  | k + 1, x :: xs, y :: ys => if ab x.2 < ab y.2 then (x, (0, 0)) :: mrg k xs (y :: ys) else if ab y.2 < ab x.2 then ((0, 0), y) :: mrg k (x :: xs) ys else (x, y) :: mrg k xs ys
theorem mrg_more : ∀ (k k' : Nat) (xs ys : List (Int × Int)), xs.length + ys.length ≤ k → xs.length + ys.length ≤ k' → mrg k xs ys = mrg k' xs ys := by
  intro k
  induction k with
  | zero =>
    intro k' xs ys h h'
    have h1 : xs = [] := List.length_eq_zero_iff.1 (by omega)
    have h2 : ys = [] := List.length_eq_zero_iff.1 (by omega)
    subst h1 h2
    cases k' <;> rfl
  | succ k ih =>
    intro k' xs ys h h'
    cases k' with
    | zero =>
      have h1 : xs = [] := List.length_eq_zero_iff.1 (by omega)
      have h2 : ys = [] := List.length_eq_zero_iff.1 (by omega)
      subst h1 h2
      rfl
    | succ k' =>
      cases xs with
      | nil =>
        cases ys with
        | nil => rfl
        | cons y ys =>
          simp at h h'
          show _ :: mrg k [] ys = _ :: mrg k' [] ys
          rw [ih k' [] ys (by simp; omega) (by simp; omega)]
      | cons x xs =>
        cases ys with
        | nil =>
          simp at h h'
          show _ :: mrg k xs [] = _ :: mrg k' xs []
          rw [ih k' xs [] (by simp; omega) (by simp; omega)]
        | cons y ys =>
          simp at h h'
          simp only [mrg]
          rw [ih k' xs (y :: ys) (by simp; omega) (by simp; omega), ih k' (x :: xs) ys (by simp; omega) (by simp; omega), ih k' xs ys (by omega) (by omega)]
def prs (xs ys : List (Int × Int)) : List ((Int × Int) × (Int × Int)) := mrg (xs.length + ys.length) xs ys
theorem prs_left {x : Int × Int} {xs : List (Int × Int)} : prs (x :: xs) [] = (x, (0, 0)) :: prs xs [] := by
  unfold prs
  show mrg (xs.length + 0 + 1) _ _ = _
  rfl
theorem prs_right {y : Int × Int} {ys : List (Int × Int)} : prs [] (y :: ys) = ((0, 0), y) :: prs [] ys := by
  unfold prs
  show mrg (0 + (ys.length + 1)) _ _ = _
  rw [show 0 + (ys.length + 1) = (0 + ys.length) + 1 from rfl]
  rfl
theorem prs_lt {x y : Int × Int} {xs ys : List (Int × Int)} (h : ab x.2 < ab y.2) : prs (x :: xs) (y :: ys) = (x, (0, 0)) :: prs xs (y :: ys) := by
  unfold prs
  rw [show (x :: xs).length + (y :: ys).length = (xs.length + (y :: ys).length) + 1 from by simp; omega]
  simp only [mrg]
  rw [if_pos h]
theorem prs_gt {x y : Int × Int} {xs ys : List (Int × Int)} (h : ab y.2 < ab x.2) : prs (x :: xs) (y :: ys) = ((0, 0), y) :: prs (x :: xs) ys := by
  unfold prs
  rw [show (x :: xs).length + (y :: ys).length = ((x :: xs).length + ys.length) + 1 from by simp; omega]
  simp only [mrg]
  rw [if_neg (by omega), if_pos h]
theorem prs_eq {x y : Int × Int} {xs ys : List (Int × Int)} (h : ab x.2 = ab y.2) : prs (x :: xs) (y :: ys) = (x, y) :: prs xs ys := by
  unfold prs
  rw [show (x :: xs).length + (y :: ys).length = (xs.length + (ys.length + 1)) + 1 from by simp; omega]
  simp only [mrg]
  rw [if_neg (by omega), if_neg (by omega), mrg_more _ (xs.length + ys.length) xs ys (by omega) (by omega)]
theorem prs_nil : prs [] [] = [] := rfl

/-- -1, 0 or 1. -/
def sgnC (x y : Int) : Int := if x < y then -1 else if y < x then 1 else 0
set_option maxHeartbeats 800000 in
theorem cmpInt_any (x y : Int) (w : World) :
    Calls Tryd.prog 97 #[.int .i64 x, .int .i64 y] w fun e w' => e = .returned (.int .i64 (sgnC x y)) ∧ w = w' := by
  by_cases h1 : x < y
  · go_enter Tryd.func97, Tryd.ntmps97
    go_wp2
    go_ret
    exact ⟨ret_int (by unfold sgnC; rw [if_pos h1]), rfl⟩
  · by_cases h2 : y < x
    · go_enter Tryd.func97, Tryd.ntmps97
      go_wp2
      go_ret
      exact ⟨ret_int (by unfold sgnC; rw [if_neg (by omega), if_pos h2]), rfl⟩
    · go_enter Tryd.func97, Tryd.ntmps97
      go_wp2
      go_ret
      exact ⟨ret_int (by unfold sgnC; rw [if_neg (by omega), if_neg (by omega)]), rfl⟩

/-- Which list comes first: an empty one comes last. -/
def ordC (m : Nat) (l : Nat → Int) (m' : Nat) (l' : Nat → Int) : Int := if m = 0 ∨ m' = 0 then sgnC m' m else sgnC (ab (l 0)) (ab (l' 0))
end Go.Proofs.YtbebdhjhlheboaaDoor

namespace Go.Proofs.YtbebdhjhlheboaaDoor
open Go.ChangeShapes Go.WideShapes Go.ChangeAt Go.RowKit Go.Shelf

/-- The variable of a number, as Go computes it. -/
def vrW (n : Int) : Int := if n < 0 then wrap64 (-n) else n
theorem vrW_lit {n : Int} (h : litB n = true) : vrW n = ab n := by
  have := litB_iff.1 h
  unfold vrW ab
  split
  · exact IntWalk.i64_left _ ▸ IntWalk.i64_in _ (by omega)
  · rfl
set_option maxHeartbeats 400000 in
theorem litVar_all (n : Int) (w : World) :
    Calls Tryd.prog 59 #[.int .i64 n] w fun e w' => e = .returned (.int .i64 (vrW n)) ∧ w = w' := by
  by_cases h : n < 0
  · go_enter Tryd.func59, Tryd.ntmps59
    go_wp2
    go_ret
    exact ⟨ret_int (by unfold vrW; rw [if_pos h]), rfl⟩
  · go_enter Tryd.func59, Tryd.ntmps59
    go_wp2
    go_ret
    exact ⟨ret_int (by unfold vrW; rw [if_neg (by omega)]), rfl⟩

/-- The comparison of two literals by their variables. -/
def djC (x y : Int) : Int := sgnC (vrW x) (vrW y)
theorem djC_lt (x y : Int) : ltOf djC x y = decide (vrW x < vrW y) := by
  unfold ltOf djC sgnC
  by_cases h1 : vrW x < vrW y
  · simp [h1]
  · by_cases h2 : vrW y < vrW x <;> simp [h1, h2]
theorem djC_swo : Go.Sort.SWO (ltOf djC) where
  irrefl x := by rw [djC_lt]; simp
  trans x y z h1 h2 := by rw [djC_lt] at *; simp at *; omega
  ntrans x y z h1 h2 := by rw [djC_lt] at *; simp at *; omega

set_option maxRecDepth 100000 in
set_option maxHeartbeats 1000000 in
theorem djCmp_any (x y : Int) (W : World) :
    Calls Tryd.prog 96 #[.int .i64 x, .int .i64 y] W fun e w' => e = .returned (.int .i64 (djC x y)) ∧ ∃ q, w' = W.drewN q := by
  have H3 := Lib.hid (cmpInt_any (vrW x) (vrW y))
  go_enter Tryd.func96, Tryd.ntmps96
  go_wp2_with (first | (go_at_call 59; refine (litVar_all _ _).mono ?_; rintro e w' ⟨rfl, rfl⟩) | (go_at_call 97; refine (H3.out _).mono ?_; rintro e w' ⟨rfl, rfl⟩))
  go_ret
  exact ⟨rfl, 0, rfl⟩

set_option maxHeartbeats 1000000 in
theorem valuesSeq_any (A : Option Addr) (n cap : Nat) (w : World) :
    Calls Tryd.prog 95 #[.slice A n cap] w fun e w' => e = .returned (.func (.func 103) #[] #[.pointer (some ⟨w.heap.size, 0, none⟩)]) ∧
      w'.cell? ⟨w.heap.size, 0, none⟩ = some (.slice A n cap) ∧ w.heap.size < w'.heap.size ∧ Below w.heap.size w w' := by
  go_enter Tryd.func95, Tryd.ntmps95
  go_wp2
  go_ret
  exact ⟨rfl, by go_simp, by simp, bl_alloc (Below.refl _ _) _⟩

set_option maxHeartbeats 1000000 in
theorem collect_any (B1 : Nat) (A : Option Addr) (len cap : Nat) (v : Nat → Int) (hlen : len ≤ 1048576) (w : World)
    (hB1 : B1 < w.heap.size) (ht : w.cell? ⟨B1, 0, none⟩ = some (.slice A len cap)) (hr : RdI w w.heap.size A len v) :
    Calls Tryd.prog 101 #[.func (.func 103) #[] #[.pointer (some ⟨B1, 0, none⟩)]] w fun e W' => ∃ u, e = .returned u ∧ W'.ownsRow (w.heap.size + 1) 3 1 u len ((vlst v len).map (Value.int .i64)) ∧ (len = 0 → u = .slice none 0 0) ∧ Below w.heap.size w W' := by
  have HC := Lib.hid ((callsIn_wide (n := 6)).1 (appendSeq_in Fence.wide 6 trivial trivial rfl (by omega) B1 A len cap v hlen w hB1 ht hr))
  clear ht hr
  go_enter Tryd.func101, Tryd.ntmps101
  go_wp2_with fail
  refine HC.out.mono ?_
  rintro e w' ⟨u, rfl, ho, hz, hb⟩
  have HO := Lib.hid ho
  have HZ := Lib.hid hz
  have HB := Lib.hid hb
  clear ho hz hb
  go_wp2
  go_ret
  exact ⟨u, rfl, HO.out, HZ.out, HB.out⟩

end Go.Proofs.YtbebdhjhlheboaaDoor

namespace Go.Proofs.YtbebdhjhlheboaaDoor
open Go.ChangeShapes Go.WideShapes Go.ChangeAt Go.RowKit Go.Shelf

/-- The row, sorted as Go sorts it. -/
def djD (v : Nat → Int) (n : Nat) : Array Int := Go.Sort.pdq (ltOf djC) (vlst v n).toArray 0 n (Go.Lib.bitLen n) true true
theorem djD_sorts (v : Nat → Int) (n : Nat) : Go.Sort.PermIn 0 n (vlst v n).toArray (djD v n) ∧ Go.Sort.SortedIn (ltOf djC) 0 n (djD v n) := by
  have hsz : (vlst v n).toArray.size = n := by simp [vlst_length]
  have h := Go.Sort.pdq_sorts (ltOf djC) djC_swo (vlst v n).toArray 0 n (Go.Lib.bitLen n) true true (Nat.zero_le _) (by omega) (Or.inl rfl)
  exact ⟨h.1, h.2⟩
theorem djD_size (v : Nat → Int) (n : Nat) : (djD v n).size = n := (djD_sorts v n).1.1.trans (by simp [vlst_length])

/-- What sorting leaves. -/
def SrtRes (w : World) (len : Nat) (v : Nat → Int) (e : Ending) (w' : World) : Prop :=
  ∃ u, e = .returned u ∧ Below w.heap.size w w' ∧ (len = 0 → u = .slice none 0 0) ∧ (0 < len → ∃ G cap', u = .slice (some ⟨G, 0, none⟩) len cap' ∧ w.heap.size ≤ G ∧ G < w'.heap.size ∧ len ≤ cap' ∧ Go.Sort.Holds Go.encZ w' G 0 (djD v len))

set_option maxRecDepth 100000 in
set_option maxHeartbeats 2000000 in
theorem sorted_any (B1 : Nat) (A : Option Addr) (len cap : Nat) (v : Nat → Int) (hlen : len ≤ 1048576) (w : World)
    (hB1 : B1 < w.heap.size) (ht : w.cell? ⟨B1, 0, none⟩ = some (.slice A len cap)) (hr : RdI w w.heap.size A len v) :
    Calls Tryd.prog 94 #[.func (.func 103) #[] #[.pointer (some ⟨B1, 0, none⟩)], .func (.func 96) #[] #[]] w (SrtRes w len v) := by
  have HC := Lib.hid (collect_any B1 A len cap v hlen w hB1 ht hr)
  clear ht hr
  go_enter Tryd.func94, Tryd.ntmps94
  go_wp2_with fail
  refine HC.out.mono ?_
  rintro e w1 ⟨u, rfl, ho, hz, hb⟩
  have HB := Lib.hid hb
  by_cases h0 : len = 0
  · obtain rfl := hz h0
    subst h0
    have HS := Lib.hid (AnyF.slices_SortFunc_none Tryd.sortD0 none 0 (.func (.func 96) #[] #[]) w1)
    clear ho hz hb
    go_wp2_with fail
    refine HS.out.mono ?_
    rintro e w2 ⟨rfl, rfl⟩
    go_wp2
    go_ret
    exact ⟨_, rfl, HB.out, fun _ => rfl, fun h => absurd h (by omega)⟩
  · rcases ho.2 with ⟨_, hz⟩ | ⟨g, cp, cur, rfl, hbase, hgb, r1, r2, r3, r4⟩
    · exact absurd hz h0
    · have hH : Go.Sort.Holds Go.encZ w1 g 0 (vlst v len).toArray := holds_of_block_i hgb (by rw [vlst_length]; simpa using r4)
      have hgl : g < w1.heap.size := (Array.getElem?_eq_some_iff.1 hgb).1
      have hS := Any.slices_SortFunc_eq Tryd.sortD Go.encZ (fun _ => rfl) djC djC_swo 96 #[] g 0 cp (vlst v len).toArray w1
        (enters_of Tryd.func96 (by kernel_rfl) rfl) (CmpReads.lays (fun _ _ _ _ x y => djCmp_any x y _)) hH hgl (by simp [vlst_length]; omega)
      have hsz : (vlst v len).toArray.size = len := by simp [vlst_length]
      rw [hsz] at hS
      rw [show Go.Sort.pdq (ltOf djC) (vlst v len).toArray 0 len (Go.Lib.bitLen len) true true = djD v len from rfl] at hS
      change Calls Tryd.prog 102 _ _ _ at hS
      have HS := Lib.hid hS
      have HH := Lib.hid hH
      have Hsz := Lib.hid hsz
      clear ho hz hb hS hH hgb r3 r4 hsz
      go_wp2_with fail
      refine HS.out.mono ?_
      rintro e w2 ⟨rfl, m, os, rfl⟩
      have hd : (djD v len).size = (vlst v len).toArray.size := (djD_size v len).trans Hsz.out.symm
      have hx : Go.Sort.Holds Go.encZ (sortWorld Go.encZ w1 g 0 m (djD v len) os) g 0 (djD v len) := holds_sortWorld Go.encZ w1 g 0 m (vlst v len).toArray (djD v len) os hgl HH.out hd
      have hl : g < (sortWorld Go.encZ w1 g 0 m (djD v len) os).heap.size := lt_sortWorld Go.encZ w1 g 0 m (djD v len) os hgl
      have hg : w1.grownBy (sortWorld Go.encZ w1 g 0 m (djD v len) os) (some g) := grownBy_sorted_i _
      have HX := Lib.hid hx
      have HL := Lib.hid hl
      have HG := Lib.hid hg
      clear hd hx hl hg
      generalize sortWorld Go.encZ w1 g 0 m (djD v len) os = W at *
      go_wp2
      go_ret
      exact ⟨_, rfl, HB.out.grown HG.out HB.out.size (fun k e => by cases e; omega), fun h => absurd h h0, fun _ => ⟨g, cp, rfl, by omega, HL.out, r1, HX.out⟩⟩
end Go.Proofs.YtbebdhjhlheboaaDoor

namespace Go.Proofs.YtbebdhjhlheboaaDoor
open Go.ChangeShapes Go.WideShapes Go.ChangeAt Go.RowKit

set_option maxRecDepth 100000 in
set_option maxHeartbeats 1600000 in
theorem indexDj_any (A : Option Addr) (n cap : Nat) (v : Nat → Int) (q : Nat → Bool)  (w : World) (hn : n ≤ 1048576) (hr : RdI w w.heap.size A n v)
    (hf : ∀ (k : Nat) (X : World), k < n → Below w.heap.size w X → Calls Tryd.prog 100 #[.int .i64 (v k)] X fun e X' => e = .returned (.bool (q k)) ∧ Below X.heap.size X X') :
    Calls Tryd.prog 105 #[.slice A n cap, .func (.func 100) #[] #[]] w fun e w' => ∃ m : Int, e = .returned (.int .i64 m) ∧ decide (0 ≤ m) = anyQ q n ∧ Below w.heap.size w w' := by
  go_enter Tryd.func105, Tryd.ntmps105
  go_wp2
  go_loopw [8] (fun i wr => ∃ k : Nat, k ≤ n ∧ i = .int .i64 k ∧ anyQ q k = false ∧ Below w.heap.size w wr) (fun i _ => n - (intOf i).toNat)
  case atStart => exact ⟨0, Nat.zero_le _, rfl, rfl, Below.refl _ _⟩
  case round =>
    obtain ⟨k, hk, rfl, hp, hb⟩ := hrel
    have Hp := Lib.hid hp
    clear hp
    by_cases hlt : k < n
    · obtain ⟨b, off, rfl, hbl, hc⟩ := (hr.below hb) (by omega)
      have hc1 := hc k hlt
      have Hcall := Lib.hid (hf k wr hlt hb)
      clear hc hr hf
      cases hq : q k with
      | true =>
        have Hfin := Lib.hid (show decide (0 ≤ (k : Int)) = anyQ q n from by rw [anyQ_of hlt hq]; simp)
        rw [hq] at Hcall
        have Hq := Lib.hid hq
        clear hq
        go_wp2_with fail
        refine Hcall.out.mono ?_
        rintro e w1 ⟨rfl, hb1⟩
        go_wp2
        go_ret
        exact ⟨_, rfl, Hfin.out, hb.trans (hb1.mono hb.size)⟩
      | false =>
        have Hno := Lib.hid (anyQ_step Hp.out hq)
        rw [hq] at Hcall
        clear hq
        go_wp2_with fail
        refine Hcall.out.mono ?_
        rintro e w1 ⟨rfl, hb1⟩
        go_wp2
        go_roundw
        case rel => exact ⟨k + 1, by omega, by go_num, Hno.out, hb.trans (hb1.mono hb.size)⟩
        case measure => simp [intOf]; omega
    · have e : k = n := by omega
      subst e
      go_wp2
      go_ret
      exact ⟨-1, rfl, by rw [Hp.out]; rfl, hb⟩

set_option maxRecDepth 100000 in
set_option maxHeartbeats 800000 in
theorem containsDj_any (A : Option Addr) (n cap : Nat) (v : Nat → Int) (q : Nat → Bool)  (w : World) (hn : n ≤ 1048576) (hr : RdI w w.heap.size A n v)
    (hf : ∀ (k : Nat) (X : World), k < n → Below w.heap.size w X → Calls Tryd.prog 100 #[.int .i64 (v k)] X fun e X' => e = .returned (.bool (q k)) ∧ Below X.heap.size X X') :
    Calls Tryd.prog 99 #[.slice A n cap, .func (.func 100) #[] #[]] w fun e w' => e = .returned (.bool (anyQ q n)) ∧ Below w.heap.size w w' := by
  have Hc := Lib.hid (indexDj_any A n cap v q  w hn hr hf)
  clear hf
  go_enter Tryd.func99, Tryd.ntmps99
  go_wp2_with fail
  refine Hc.out.mono ?_
  rintro e w1 ⟨m, rfl, hm, hb⟩
  have Hm := Lib.hid hm
  clear hm
  go_wp2
  go_ret
  exact ⟨ret_bool Hm.out, hb⟩

set_option maxHeartbeats 800000 in
theorem djNot_any (n : Int) (w : World) :
    Calls Tryd.prog 100 #[.int .i64 n] w fun e w' => e = .returned (.bool (!litB n)) ∧ Below w.heap.size w w' := by
  have HL := Lib.hid (litValid_any n)
  go_enter Tryd.func100, Tryd.ntmps100
  go_wp2_with (go_at_call 58; refine (HL.out _).mono ?_; rintro e w' ⟨rfl, rfl⟩)
  go_ret
  exact ⟨rfl, by repeat (first | exact Below.refl _ _ | refine bl_alloc ?_ _ | refine Below.drew ?_)⟩

/-- Whether a row of literals is ready. -/
def djR (n : Nat) (lt : Nat → Int) : Bool := decide (n ≤ 40) && !anyQ (fun k => !litB (lt k)) n
theorem djR_iff {n : Nat} {lt : Nat → Int} : djR n lt = true ↔ n ≤ 40 ∧ ∀ i, i < n → litB (lt i) = true := by
  have key : ∀ m, anyQ (fun k => !litB (lt k)) m = false ↔ ∀ i, i < m → litB (lt i) = true := fun m => by
    induction m with
    | zero => exact ⟨fun _ i hi => absurd hi (by omega), fun _ => rfl⟩
    | succ m ih =>
      unfold anyQ
      rw [Bool.or_eq_false_iff, ih]
      constructor
      · rintro ⟨h1, h2⟩ i hi
        by_cases e : i = m
        · subst e; simpa using h2
        · exact h1 i (by omega)
      · exact fun h => ⟨fun i hi => h i (by omega), by simpa using h m (by omega)⟩
  unfold djR
  rw [Bool.and_eq_true, decide_eq_true_eq, Bool.not_eq_true', key]

set_option maxHeartbeats 1600000 in
theorem djReady_any (A : Option Addr) (n cap : Nat) (lt : Nat → Int) (w : World) (hn : n ≤ 1048576) (hr : RdI w w.heap.size A n lt) :
    Calls Tryd.prog 93 #[.slice A n cap] w fun e w' => e = .returned (.bool (djR n lt)) ∧ Below w.heap.size w w' := by
  have HC := Lib.hid (fun (W : World) (hb : Below w.heap.size w W) => containsDj_any A n cap lt (fun k => !litB (lt k)) W hn (hr.later hb) (fun k X _ _ => djNot_any (lt k) X))
  clear hr
  by_cases h : n ≤ 40
  · have hi : (n : Int) ≤ 40 := by omega
    have HR := Lib.hid (show djR n lt = !anyQ (fun k => !litB (lt k)) n from by simp [djR, h])
    clear h
    go_enter Tryd.func93, Tryd.ntmps93
    go_wp2_with fail
    refine (HC.out _ (by repeat (first | exact Below.refl _ _ | refine bl_alloc ?_ _ | refine Below.drew ?_))).mono ?_
    rintro e w1 ⟨rfl, hb⟩
    have HB := Lib.hid hb
    clear hb
    go_wp2
    go_ret
    exact ⟨ret_bool HR.out.symm, bl_trans (by repeat (first | exact Below.refl _ _ | refine bl_alloc ?_ _ | refine Below.drew ?_)) HB.out⟩
  · have hi : ¬ (n : Int) ≤ 40 := by omega
    have HR := Lib.hid (show djR n lt = false from by simp [djR, h])
    clear h
    go_enter Tryd.func93, Tryd.ntmps93
    go_wp2
    go_ret
    exact ⟨ret_bool HR.out.symm, by repeat (first | exact Below.refl _ _ | refine bl_alloc ?_ _ | refine Below.drew ?_)⟩
end Go.Proofs.YtbebdhjhlheboaaDoor

namespace Go.Proofs.YtbebdhjhlheboaaDoor
open Go.ChangeShapes Go.WideShapes Go.ChangeAt Go.RowKit Go.Shelf

def iOf : Value → Int | .int _ q => q | _ => 0
/-- The row, sorted and compacted. -/
def djK (n : Nat) (v : Nat → Int) : List Int := Go.Lib.compactUpTo (djD v n) (djD v n).size

theorem compact_any (G cap len : Nat) (d : Array Int) (w : World) (hH : Go.Sort.Holds Go.encZ w G 0 d) (hG : G < w.heap.size) (hs : d.size = len) (hl : len ≤ 1048576) (hcap : len ≤ cap) :
    Calls Tryd.prog 98 #[.slice (some ⟨G, 0, none⟩) len cap] w fun e w' => e = .returned (.slice (some ⟨G, 0, none⟩) (Go.Lib.compactUpTo d d.size).length cap) ∧ RdI w' w'.heap.size (some ⟨G, 0, none⟩) (Go.Lib.compactUpTo d d.size).length (getK (Go.Lib.compactUpTo d d.size)) ∧ w.grownBy w' (some G) := by
  have h := Any.slices_Compact_int_arr Tryd.compactD G 0 cap d w hH (by omega) (by omega)
  change Calls Tryd.prog 98 _ _ _ at h
  rw [hs] at h
  refine h.mono ?_
  rintro e w' ⟨rfl, q, rfl⟩
  have hle : (Go.Lib.compactUpTo d len).length ≤ len := by
    unfold Go.Lib.compactUpTo
    rw [List.length_map]
    exact Nat.le_trans (List.length_filter_le _ _) (by simp)
  have hsz : (Go.Lib.compactUpTo d len ++ List.replicate (len - (Go.Lib.compactUpTo d len).length) 0).toArray.size = d.size := by simp; omega
  have e1 : Go.Sort.putRow Go.encZ (Go.Sort.ahead w q) G 0 (Go.Lib.compactUpTo d len ++ List.replicate (len - (Go.Lib.compactUpTo d len).length) 0).toArray = sortWorld Go.encZ w G 0 q (Go.Lib.compactUpTo d len ++ List.replicate (len - (Go.Lib.compactUpTo d len).length) 0).toArray #[] := (Go.Sort.grow_empty _).symm
  have hx := holds_sortWorld Go.encZ w G 0 q d (Go.Lib.compactUpTo d len ++ List.replicate (len - (Go.Lib.compactUpTo d len).length) 0).toArray #[] hG hH hsz
  have hy := lt_sortWorld Go.encZ w G 0 q (Go.Lib.compactUpTo d len ++ List.replicate (len - (Go.Lib.compactUpTo d len).length) 0).toArray #[] hG
  have hz : w.grownBy (sortWorld Go.encZ w G 0 q (Go.Lib.compactUpTo d len ++ List.replicate (len - (Go.Lib.compactUpTo d len).length) 0).toArray #[]) (some G) := grownBy_sorted_i _
  rw [hs]
  refine ⟨rfl, ?_, ?_⟩
  · intro _
    refine ⟨G, 0, rfl, ?_, fun i hi => ?_⟩
    · exact Nat.lt_of_lt_of_eq hy (congrArg (fun W : World => W.heap.size) e1.symm)
    · have h1 := (hx i (by rw [hsz]; omega)).1
      rw [← e1] at h1
      refine h1.trans ?_
      rw [getElem!_pos _ i (by rw [hsz]; omega), getK_at hi]
      simp [List.getElem_append_left hi]
  · exact e1.symm ▸ hz

theorem row_capD {w : World} {B n s cap : Nat} {T : TypeId} {A : Option Addr} {xs : List Value} (h : w.ownsRow B T s (.slice A n cap) n xs) : n ≤ cap := by
  rcases h.2 with ⟨hov, hk⟩ | ⟨g, cap', cur, hov, hg, hh, hnc, _, hsz, htk⟩
  · omega
  · cases hov
    exact hnc
/-- What apply leaves, its slice no longer than its room. -/
def ARoom (w : World) (n : Nat) (c l : Nat → Int) (bd : Int) (e : Ending) (w' : World) : Prop :=
  ∃ A cap, e = .returned (.agg #[.slice A n cap, .int .i64 bd]) ∧ Frs w' w.heap.size A n c l ∧ Below w.heap.size w w' ∧ n ≤ cap

set_option maxRecDepth 100000 in
set_option maxHeartbeats 2000000 in
theorem djApply_room (A : Option Addr) (n cap : Nat) (v : Nat → Int) (w : World) (hn : n ≤ 1048576) (hr : RdI w w.heap.size A n v) :
    Calls Tryd.prog 92 #[.slice A n cap] w (ARoom w (djK n v).length one1 (getK (djK n v)) 1) := by
  have hR := Lib.hid hr
  clear hr
  go_enter Tryd.func92, Tryd.ntmps92
  go_wp2_with fail
  refine (valuesSeq_any _ _ _ _).mono ?_
  rintro e w1 ⟨rfl, hc, hz, hb⟩
  have HB1 := Lib.hid (bl_trans (bl_alloc (Below.refl w.heap.size w) _) hb)
  have r0 : w1.cell? ⟨w.heap.size, 0, none⟩ = some (.slice none 0 0) := kc hb (by go_simp)
  have r1 : w1.cell? ⟨w.heap.size, 1, none⟩ = some (.int .i64 0) := kc hb (by go_simp)
  have f0 : w1.frozen? ⟨w.heap.size, 0, none⟩ = false := kf hb (by simp) (by go_simp)
  have f1 : w1.frozen? ⟨w.heap.size, 1, none⟩ = false := kf hb (by simp) (by go_simp)
  have q1 : w.heap.size < w1.heap.size := World.block_lt_of_cell? w1 _ r0
  simp only [World.size_alloc] at hc hz
  have HC := Lib.hid hc
  clear hb hc
  go_wp2_with fail
  refine (sorted_any (w.heap.size + 1) A n cap v hn w1 hz HC.out (hR.out.later HB1.out)).mono ?_
  rintro e w2 ⟨u, rfl, hb, hu0, hu1⟩
  have HB2 := Lib.hid (bl_trans HB1.out hb)
  replace r0 := kc hb r0
  replace r1 := kc hb r1
  replace f0 := kf hb q1 f0
  replace f1 := kf hb q1 f1
  have q2 : w.heap.size < w2.heap.size := World.block_lt_of_cell? w2 _ r0
  have hz12 := hb.size
  have hcon : ∃ (A2 : Option Addr) (cap2 : Nat), u = .slice A2 n cap2 ∧ Calls Tryd.prog 98 #[.slice A2 n cap2] w2 (fun e w' => e = .returned (.slice A2 (djK n v).length cap2) ∧ RdI w' w'.heap.size A2 (djK n v).length (getK (djK n v)) ∧ Below (w.heap.size + 1) w2 w') := by
    by_cases h0 : n = 0
    · subst h0
      refine ⟨none, 0, hu0 rfl, (Any.slices_Compact_int_empty Tryd.compactD none 0 w2).mono ?_⟩
      rintro e w' ⟨rfl, rfl⟩
      have hk : djK 0 v = [] := by
        have : (djK 0 v).length ≤ 0 := by
          unfold djK Go.Lib.compactUpTo
          rw [List.length_map]
          exact Nat.le_trans (List.length_filter_le _ _) (by simp [djD_size])
        exact List.eq_nil_of_length_eq_zero (by omega)
      rw [hk]
      exact ⟨rfl, fun h => absurd h (by simp), Below.refl _ _⟩
    · obtain ⟨G, cap', rfl, hG, hGl, hcap, hH⟩ := hu1 (by omega)
      refine ⟨_, cap', rfl, (compact_any G cap' n (djD v n) w2 hH hGl (djD_size v n) hn hcap).mono ?_⟩
      rintro e w' ⟨rfl, h1, h2⟩
      exact ⟨rfl, h1, (Below.refl _ w2).grown h2 (by omega) (fun k e => by cases e; omega)⟩
  obtain ⟨A2, cap2, rfl, hcomp⟩ := hcon
  have HK := Lib.hid hcomp
  clear hb hu0 hu1 hcomp hz HC
  go_wp2_with fail
  refine HK.out.mono ?_
  rintro e w3 ⟨rfl, hr3, hb⟩
  have hkl : (djK n v).length ≤ 1048576 := by
    have : (djK n v).length ≤ n := by
      unfold djK Go.Lib.compactUpTo
      rw [List.length_map]
      exact Nat.le_trans (List.length_filter_le _ _) (by simp [djD_size])
    omega
  have HB3 := Lib.hid (HB2.out.trans (hb.mono (by omega)))
  replace r0 := (hb.cell (p := ⟨w.heap.size, 0, none⟩) (by show w.heap.size < w.heap.size + 1; omega)).trans r0
  replace r1 := (hb.cell (p := ⟨w.heap.size, 1, none⟩) (by show w.heap.size < w.heap.size + 1; omega)).trans r1
  replace f0 := (hb.frozen (p := ⟨w.heap.size, 0, none⟩) (by show w.heap.size < w.heap.size + 1; omega)).trans f0
  replace f1 := (hb.frozen (p := ⟨w.heap.size, 1, none⟩) (by show w.heap.size < w.heap.size + 1; omega)).trans f1
  have q3 : w.heap.size < w3.heap.size := World.block_lt_of_cell? w3 _ r0
  have HR3 := Lib.hid hr3
  clear hb HK hr3 hR hn
  generalize djK n v = K at *
  obtain ⟨i0, hi, hz0, hz1, hz2⟩ := info_parts Tryd.infoTerm
  have Hi := Lib.hid hi
  have Hz0 := Lib.hid hz0
  have Hz1 := Lib.hid hz1
  have Hz2 := Lib.hid hz2
  clear hi hz0 hz1 hz2
  go_wp2
  go_loopw [4, 13] (fun o i wq => ∃ (j : Nat) (ov : Value), ov = o ∧ j ≤ K.length ∧ i = .int .i64 j ∧ wq.ownsRow w3.heap.size 60 2 ov j (flat one1 (getK K) j) ∧ Below w3.heap.size w3 wq) (fun _ i _ => K.length - (iOf i).toNat)
  case atStart => exact ⟨0, _, rfl, Nat.zero_le _, rfl, World.ownsRow_nil _ _ _ _, Below.refl _ _⟩
  case round =>
    obtain ⟨j, ov, rfl, hj, rfl, hown, hb⟩ := hrel
    have Hown := Lib.hid hown
    have HB := Lib.hid hb
    by_cases hlt : j < K.length
    · obtain ⟨b, off, rfl, hbl, hc⟩ := (HR3.out.below hb) (by omega)
      have hc1 := hc j hlt
      have hzb : b < wr.heap.size := Nat.lt_of_lt_of_le hbl hb.size
      have hz3 : w3.heap.size ≤ wr.heap.size := hb.size
      have hltI : (j : Int) < (K.length : Int) := by omega
      have hj0 : (0 : Int) ≤ (j : Int) := by omega
      have HrowA := Lib.hid (hown.alloc (.cells #[.int .i64 1, .int .i64 (getK K j)] 60))
      have HbA := Lib.hid (bl_alloc hb (.cells #[.int .i64 1, .int .i64 (getK K j)] 60))
      have News := Lib.hid (World.news_of_block (w := wr.alloc (.cells #[.int .i64 1, .int .i64 (getK K j)] 60)) (B := wr.heap.size) (cs := #[.int .i64 1, .int .i64 (getK K j)]) (t := 60) (fr := (0, 0)) (heap_alloc_new wr _))
      clear hc hown hb r0 r1 f0 f1
      go_wp2_with (at_builtin; refine wpList_plain (by rfl) fun K' hK' => ?_; refine wp_append_lies _ _ _ _ (by rfl) w3.heap.size 60 i0 _ 2 16 Tryd.underlying29 Hi.out Hz0.out Hz1.out Hz2.out rfl (by omega) ov j _ (by rfl) HrowA.out ⟨wr.heap.size, 0, none⟩ 1 1 [.int .i64 1, .int .i64 (getK K j)] (by rfl) (by rfl) (News.out) (by simp [Value.oneCell']) (by omega) (by unfold maxLen; omega) (by omega) (by simp; omega) (wr.heap.size + 1) (by simp) ?_; intro gg cap1 w4 hown3 hgrow hat3 hlt3; refine hK' _ _ ?_; clear hK' K')
      go_roundw
      case rel => exact ⟨j + 1, _, rfl, by omega, by go_num, hown3, HbA.out.grown hgrow HbA.out.size (fun j e => (Hown.out.lt j e).1)⟩
      case measure => simp [iOf]; omega
    · have e : j = K.length := by omega
      subst e
      obtain ⟨A', cap', rfl, hF⟩ := frs_of_row Hown.out
      have HF := Lib.hid (hF.more (B' := w.heap.size + 1) (by omega))
      have hroom := row_capD Hown.out
      replace r0 := kc hb r0
      replace r1 := kc hb r1
      replace f0 := kf hb q3 f0
      replace f1 := kf hb q3 f1
      have HBz := Lib.hid (bl_trans HB3.out hb)
      clear hF hown hb Hown HB HB3
      go_wp2
      refine bodyPost_ret (v := .agg #[.slice A' K.length cap', .int .i64 1]) (by simp [results, Tryd.results92, go_sem, r0, r1]) rfl ?_
      exact ⟨A', cap', rfl, ((HF.out.far' (p := ⟨w.heap.size, 0, none⟩) rfl (Nat.lt_succ_self _) _).far' (p := ⟨w.heap.size, 1, none⟩) rfl (Nat.lt_succ_self _) _).more (Nat.le_succ _), (HBz.out.setCell (p := ⟨w.heap.size, 0, none⟩) (Nat.le_refl _) _).setCell (p := ⟨w.heap.size, 1, none⟩) (Nat.le_refl _) _, hroom⟩
theorem djApply_any (A : Option Addr) (n cap : Nat) (v : Nat → Int) (w : World) (hn : n ≤ 1048576) (hr : RdI w w.heap.size A n v) :
    Calls Tryd.prog 92 #[.slice A n cap] w (ARes w (djK n v).length one1 (getK (djK n v)) 1) :=
  (djApply_room A n cap v w hn hr).mono fun _ _ ⟨A, cap, he, h1, h2, _⟩ => ⟨A, cap, he, h1, h2⟩
end Go.Proofs.YtbebdhjhlheboaaDoor

namespace Go.Proofs.YtbebdhjhlheboaaDoor
open Go.ChangeShapes Go.WideShapes Go.ChangeAt Go.RowKit Go.Shelf

theorem djK_sorted {n : Nat} {v : Nat → Int} (hl : ∀ i, i < n → litB (v i) = true) : Sorted1 v n (djK n v) := by
  have hsz : (vlst v n).toArray.size = n := by simp [vlst_length]
  have h := djD_sorts v n
  refine sorted_compact (d := (vlst v n).toArray) (ltOf djC) (fun x y hx hy => by rw [djC_lt, vrW_lit hx, vrW_lit hy]) hsz (fun i hi => ?_) hl (by rw [hsz]; exact h.1) (by rw [hsz]; exact h.2)
  rw [getElem!_pos _ i (by omega)]
  have h2 := vlst_get v hi
  rw [List.getElem?_eq_getElem (by rw [vlst_length]; exact hi)] at h2
  injection h2

theorem cres_zero {w : World} {c l c' l' : Nat → Int} {bd : Int} {ok : Bool} {e : Ending} {w' : World} (h : CRes w 0 c l bd ok e w') : CRes w 0 c' l' bd ok e w' := by
  obtain ⟨A, cap, he, _, hb⟩ := h
  exact ⟨A, cap, he, .inl rfl, hb⟩

theorem infD_res {n : Nat} {v : Nat → Int} {w : World} {e : Ending} {w' : World} (h : CRes w (infN (djR n v) (djK n v).length one1 (getK (djK n v)) 1) one1 (getK (djK n v)) (infD (djR n v) (djK n v).length one1 (getK (djK n v)) 1) (infB (djR n v) (djK n v).length one1 (getK (djK n v)) 1) e w') :
    CRes w (clN n v) one1 (rL (clF n v)) (clD n v) (clB n v) e w' := by
  cases hB : infB (djR n v) (djK n v).length one1 (getK (djK n v)) 1 with
  | false =>
    have hc : clB n v = false := by
      cases hc : clB n v with
      | false => rfl
      | true =>
        exfalso
        have hc' := hc
        unfold clB at hc'
        rw [Bool.and_eq_true, decide_eq_true_eq] at hc'
        have hl := (okD_iff.1 hc'.2).1
        have hR : djR n v = true := djR_iff.2 ⟨hc'.1, hl⟩
        unfold infB at hB
        rw [hR, clause_same (djK_sorted hl) hl, hc'.2] at hB
        cases hB
    unfold infN infD at h
    rw [hB] at h
    unfold clN clD
    rw [hc]
    exact cres_zero h
  | true =>
    have hB' := hB
    unfold infB at hB'
    rw [Bool.and_eq_true] at hB'
    obtain ⟨h40, hl⟩ := djR_iff.1 hB'.1
    have hok := hB'.2
    rw [clause_same (djK_sorted hl) hl] at hok
    have hK := clause_rows (djK_sorted hl) hok
    have hc : clB n v = true := by simp [clB, h40, hok]
    unfold infN infD at h
    rw [hB, hK, getK_rows, List.length_map] at h
    unfold clN clD
    rw [hc]
    exact h

set_option maxRecDepth 100000 in
set_option maxHeartbeats 1600000 in
theorem implClause_any (A : Option Addr) (n cap : Nat) (v : Nat → Int) (w : World) (hn : n ≤ 1048576) (hr : RdI w w.heap.size A n v) :
    Calls Tryd.prog 28 #[.slice A n cap] w (CRes w (clN n v) one1 (rL (clF n v)) (clD n v) (clB n v)) := by
  have hm1 : ∀ w : World, (method 258 95 (.slice A n cap) "loop.example/cuttingplanes/impl.ready").run Tryd.prog w = .ok (93, .slice A n cap) w := fun _ => by kernel_rfl
  have hm2 : ∀ w : World, (method 258 95 (.slice A n cap) "loop.example/cuttingplanes/impl.apply").run Tryd.prog w = .ok (92, .slice A n cap) w := fun _ => by kernel_rfl
  have hkl : (djK n v).length ≤ 1048576 := by
    have : (djK n v).length ≤ n := by
      unfold djK Go.Lib.compactUpTo
      rw [List.length_map]
      exact Nat.le_trans (List.length_filter_le _ _) (by simp [djD_size])
    omega
  have HI := fun W (hb : Below w.heap.size w W) => infer_any 95 (.slice A n cap) 93 92 (djR n v) (djK n v).length one1 (getK (djK n v)) 1 W hkl hm1 hm2
    (enters_of Tryd.func93 (by kernel_rfl) rfl) (enters_of Tryd.func92 (by kernel_rfl) rfl) (fun W2 hb2 => djReady_any A n cap v W2 hn (hr.later (hb.trans (hb2.mono hb.size)))) (fun _ W2 hb2 => djApply_any A n cap v W2 hn (hr.later (hb.trans (hb2.mono hb.size))))
  clear hm1 hm2 hkl hr
  have HI' := Lib.hid HI
  clear HI
  go_enter Tryd.func28, Tryd.ntmps28
  go_wp2_with fail
  refine (HI'.out _ (bl_alloc (Below.refl _ _) _)).mono ?_
  intro e w1 hx
  obtain ⟨A, cap, rfl, hF, hb⟩ := infD_res hx
  have HF := Lib.hid hF
  have HB := Lib.hid (bl_trans (bl_alloc (Below.refl w.heap.size w) _) hb)
  have r0 : w1.cell? ⟨w.heap.size, 0, none⟩ = some (.slice none 0 0) := kc hb (by go_simp)
  have r1 : w1.cell? ⟨w.heap.size, 1, none⟩ = some (.int .i64 0) := kc hb (by go_simp)
  have f0 : w1.frozen? ⟨w.heap.size, 0, none⟩ = false := kf hb (by simp) (by go_simp)
  have f1 : w1.frozen? ⟨w.heap.size, 1, none⟩ = false := kf hb (by simp) (by go_simp)
  clear hF hb HI' hx
  go_wp2
  refine bodyPost_ret (v := .tuple #[.agg #[.slice A (clN n v) cap, .int .i64 (clD n v)], .bool (clB n v)]) (by simp [results, Tryd.results28, go_sem, r0, r1]) rfl ?_
  exact ⟨A, cap, rfl, ((HF.out.far' (by simp) (by simp) _).far' (by simp) (by simp) _).more (by simp), (HB.out.setCell (by simp) _).setCell (by simp) _⟩
end Go.Proofs.YtbebdhjhlheboaaDoor

