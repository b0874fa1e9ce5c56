/- Contracts of the program's sums by an iterator, with every literal chosen (no claim of its own). Conditions: as each theorem states. · Contracts of the program's sum over an iterator of coefficients (no claim of its own). Conditions: as each theorem states. · A constraint that a loop builds by appending to its terms: what the loop's relation says (no claim of its own). Conditions: as each theorem states. · Slices of bytes and the reader of the draws (no claim of its own). Conditions: as each theorem states. · Contracts of the reader of the draws (no claim of its own). Conditions: as each theorem states. · The contract of a question to the reader of the draws (no claim of its own). Conditions: as each theorem states. · Contracts of the draws of numbers and values (no claim of its own). Conditions: as each theorem states. · The draws of partial assignments and of values (no claim of its own). Conditions: as each theorem states. · The draw of a constraint (no claim of its own). Conditions: as each theorem states. · The draw of a valid constraint (no claim of its own). Conditions: as each theorem states. -/
import Derived.Test.YtafiikfaeomhpaaComA
import Derived.RangeFuncNested
import Derived.RangeFuncBound
import Derived.RangeFuncCalls
import Derived.RangeFuncLeaves
import Derived.RangeFuncFrom
import Derived.Shelf.Abstract
import Derived.Shelf.RegionOpen
import Derived.OwnWalkIn
import Derived.TacticsInMore
import Derived.LoopNIn
import Derived.LoopIn
import Derived.Test.YtafiikfaeomhpaaComB
import Derived.Deep.AppendLies
import Derived.Deep.RegionLaw
import Derived.Deep.DeepCutAuto
import Derived.Deep.CutBlock
import Derived.Test.YtafiikfaeomhpaaIntR
import Derived.Deep.Slices
import Derived.Carry
import Derived.ProofKit
import Derived.Laws.BitsAllLaws
import Derived.Test.YtafiikfaeomhpaaBoolA
import Derived.Laws.OwnMore
import Derived.Deep.RegionHeld3
namespace Go.Proofs.Ytafiikfaeomhpaa
open Go.ChangeShapes Go.WideShapes Go.ChangeAt Go.RowKit Go.Shelf

attribute [local go_sem] Oper.semAt_some

/-- The coefficients of those of the first k terms whose literals are chosen, in order. -/
def sel (c lt : Nat → Int) (p : Int → Bool) : Nat → List Int
  | 0 => []
  | k + 1 => if p (lt k) then sel c lt p k ++ [c k] else sel c lt p k
theorem sel_length (c lt : Nat → Int) (p : Int → Bool) (k : Nat) : (sel c lt p k).length ≤ k := by
  induction k with
  | zero => exact Nat.le_refl _
  | succ k ih =>
    unfold sel
    split
    · simp
      omega
    · omega
theorem sel_prefix (c lt : Nat → Int) (p : Int → Bool) {k n : Nat} (h : k ≤ n) : sel c lt p k <+: sel c lt p n := by
  induction n with
  | zero =>
    have : k = 0 := by omega
    subst this; exact List.prefix_refl _
  | succ n ih =>
    by_cases e : k = n + 1
    · subst e; exact List.prefix_refl _
    · refine (ih (by omega)).trans ?_
      show sel c lt p n <+: (if p (lt n) then sel c lt p n ++ [c n] else sel c lt p n)
      split
      · exact ⟨[c n], rfl⟩
      · exact List.prefix_refl _
theorem sel_yes {c lt : Nat → Int} {p : Int → Bool} {k : Nat} (h : p (lt k) = true) : sel c lt p (k + 1) = sel c lt p k ++ [c k] := by
  show (if p (lt k) then _ else _) = _
  rw [if_pos h]
theorem sel_no {c lt : Nat → Int} {p : Int → Bool} {k : Nat} (h : p (lt k) = false) : sel c lt p (k + 1) = sel c lt p k := by
  show (if p (lt k) then _ else _) = _
  rw [if_neg (by rw [h]; decide)]

theorem abides_drew {β : Type} {B : Nat} {J : β → World → Prop} (h : AbidesFrom B J) {s : β} {W : World} (m : Nat) (hs : J s W) : J s (W.drewN m) :=
  h s W _ none hs ⟨rfl, rfl, rfl, Nat.le_refl _, fun _ _ _ => rfl⟩ (fun _ e => by cases e)
theorem abides_alloc {β : Type} {B : Nat} {J : β → World → Prop} (h : AbidesFrom B J) {s : β} {W : World} (o : Obj) (hs : J s W) : J s (W.alloc o) :=
  h s W _ none hs (World.grownBy_alloc W o none) (fun _ e => by cases e)

end Go.Proofs.Ytafiikfaeomhpaa

namespace Go.Proofs.Ytafiikfaeomhpaa
open Go.ChangeShapes Go.WideShapes Go.ChangeAt Go.RowKit Go.Shelf

attribute [local go_sem] Oper.semAt_some

theorem cell_of_s {W : World} {B : Nat} {v : Value} {t : TypeId} (h : W.heap[B]? = some (.cells #[v] t (0, 0))) : W.cell? ⟨B, 0, none⟩ = some v ∧ W.frozen? ⟨B, 0, none⟩ = false := by
  constructor <;> simp [World.cell?, World.frozen?, h]
theorem cell_new_s (W : World) (v : Value) (t : TypeId) : (W.alloc (.cells #[v] t)).cell? ⟨W.heap.size, 0, none⟩ = some v ∧ (W.alloc (.cells #[v] t)).frozen? ⟨W.heap.size, 0, none⟩ = false :=
  cell_of_s (World.alloc_heap_new W _)

/-- The sum, as Go computes it. -/
def sumW : List Int → Int := List.foldl (fun s v => wrap64 (s + v)) 0
theorem sumW_snoc (pre : List Int) (x : Int) : sumW (pre ++ [x]) = wrap64 (sumW pre + x) := by simp [sumW]

/-- The sum of all coefficients. -/
def totW (c lt : Nat → Int) (n : Nat) : Int := sumW (sel c lt (fun _ => true) n)

/-- What TotalCoef answers. -/
def totV (n : Nat) (c l : Nat → Int) (bd : Int) : Int := if validB n c l bd then totW c l n else 0
end Go.Proofs.Ytafiikfaeomhpaa

namespace Go.Proofs.Ytafiikfaeomhpaa
open Go.ChangeShapes Go.WideShapes Go.ChangeAt Go.RowKit

/-- The cells of the first k terms. -/
def flat (c l : Nat → Int) : Nat → List Value
  | 0 => []
  | k + 1 => flat c l k ++ [.int .i64 (c k), .int .i64 (l k)]
theorem flat_length (c l : Nat → Int) (k : Nat) : (flat c l k).length = k * 2 := by
  induction k with
  | zero => rfl
  | succ k ih => simp [flat, ih]; omega
theorem flat_at (c l : Nat → Int) {n i : Nat} (hi : i < n) : (flat c l n)[i * 2]? = some (.int .i64 (c i)) ∧ (flat c l n)[i * 2 + 1]? = some (.int .i64 (l i)) := by
  induction n with
  | zero => omega
  | succ n ih =>
    have hl := flat_length c l n
    unfold flat
    by_cases e : i = n
    · subst e
      rw [List.getElem?_append_right (by omega), List.getElem?_append_right (by omega), hl]
      simp
    · rw [List.getElem?_append_left (by omega), List.getElem?_append_left (by omega)]
      exact ih (by omega)
/-- A row of the call's own that holds terms is a slice that the call has made. -/
theorem frs_of_row {w : World} {B n : Nat} {ov : Value} {c l : Nat → Int} (h : w.ownsRow B 132 2 ov n (flat c l n)) : ∃ A cap, ov = .slice A n cap ∧ Frs w B A n c l := by
  rcases h.2 with ⟨rfl, rfl⟩ | ⟨g, cap, cur, rfl, hg, hh, hnc, _, hsz, htk⟩
  · exact ⟨none, 0, rfl, .inl rfl⟩
  · refine ⟨_, cap, rfl, .inr ⟨g, rfl, hg, cur, hh, by omega, fun i hi => ?_⟩⟩
    have hx := flat_at c l hi
    rw [← htk] at hx
    rw [List.getElem?_take_of_lt (by omega), List.getElem?_take_of_lt (by omega)] at hx
    simpa using hx

theorem frozen_row {w : World} {B : Nat} {cs : Array Value} {t : TypeId} (h : w.heap[B]? = some (.cells cs t (0, 0))) (j : Nat) : w.frozen? ⟨B, j, none⟩ = false := by simp [World.frozen?, h]

/-- A store at or below the base leaves what the call has made. -/
theorem Frs.far {w : World} {B : Nat} {A : Option Addr} {n : Nat} {c l : Nat → Int} (h : Frs w B A n c l) {p : Addr} (_hs : p.spot = none) (hp : p.block < B) (u : Value) : Frs (w.setCell p u) B A n c l := by
  rcases h with h | ⟨G, e, hG, h⟩
  · exact .inl h
  · exact .inr ⟨G, e, hG, h.at_ (Below.heap_setCell w p u G (by omega))⟩

/-- A cell whose value is known and that may be written. -/
def Cel (wr : World) (j o : Nat) (v : Value) : Prop := wr.cell? ⟨j, o, none⟩ = some v ∧ wr.frozen? ⟨j, o, none⟩ = false

theorem Cel.below {w w' : World} {j o : Nat} {v : Value} (h : Cel w j o v) (hb : Below w.heap.size w w') : Cel w' j o v :=
  ⟨kc hb h.1, kf hb (World.block_lt_of_cell? w ⟨j, o, none⟩ h.1) h.2⟩

/-- The struct in block O, whose first field is a slice of terms that the loop builds: cs and ls are the terms, k of them so far; the cells of ks stay. -/
structure OutAt (w : World) (O : Nat) (ks : List (Nat × Nat × Value)) (c l : Nat → Int) (k : Nat) (ov : Value) (wr : World) : Prop where
  o0 : Cel wr O 0 ov
  own : wr.ownsRow (O + 1) 132 2 ov k (flat c l k)
  keep : ∀ x ∈ ks, (x.1 < O ∨ (x.1 = O ∧ x.2.1 ≠ 0)) ∧ Cel wr x.1 x.2.1 x.2.2
  bel : Below w.heap.size w wr
  hO : w.heap.size ≤ O
def Out (w : World) (O : Nat) (ks : List (Nat × Nat × Value)) (c l : Nat → Int) (k : Nat) (wr : World) : Prop := ∃ ov, OutAt w O ks c l k ov wr

section
variable {w : World} {O : Nat} {ks : List (Nat × Nat × Value)} {c l : Nat → Int} {k : Nat} {ov : Value} {wr w1 wq : World}
theorem OutAt.far (h : OutAt w O ks c l k ov wr) {j : Nat} (hj : j ≤ O) : some j ≠ ov.ownBlock := fun e => by
  have := (h.own.lt j e.symm).1
  omega
theorem OutAt.cel (h : OutAt w O ks c l k ov wr) (hq : Below wr.heap.size wr wq) (hg : wq.grownBy w1 ov.ownBlock) {j o : Nat} {v : Value} (hj : j ≤ O) (hc : Cel wr j o v) : Cel w1 j o v := by
  have hc' := hc.below hq
  have hlt : j < wq.heap.size := World.block_lt_of_cell? wq ⟨j, o, none⟩ hc'.1
  exact ⟨hg.cell (a := ⟨j, o, none⟩) hc'.1 (h.far hj), (hg.frozen_far ⟨j, o, none⟩ hlt (h.far hj)).trans hc'.2⟩
theorem OutAt.t0 (h : OutAt w O ks c l k ov wr) (hq : Below wr.heap.size wr wq) (hg : wq.grownBy w1 ov.ownBlock) : w1.cell? ⟨O, 0, none⟩ = some ov := (h.cel hq hg (Nat.le_refl _) h.o0).1
theorem OutAt.u0 (h : OutAt w O ks c l k ov wr) (hq : Below wr.heap.size wr wq) (hg : wq.grownBy w1 ov.ownBlock) : w1.frozen? ⟨O, 0, none⟩ = false := (h.cel hq hg (Nat.le_refl _) h.o0).2
theorem Cel.set {j o O' o' : Nat} {v u : Value} (h : Cel wr j o v) (hne : j ≠ O' ∨ o ≠ o') : Cel (wr.setCell ⟨O', o', none⟩ u) j o v := by
  refine ⟨(World.cell?_setCell_other _ _ _ _ (fun e => ?_)).trans h.1, by rw [World.frozen?_setCell]; exact h.2⟩
  injection e with e1 e2 _
  omega
theorem Cel.put {j o : Nat} {v u : Value} (h : Cel wr j o v) : Cel (wr.setCell ⟨j, o, none⟩ u) j o u :=
  ⟨World.cell?_setCell_same' _ _ _ (by rw [h.1]; rfl), by rw [World.frozen?_setCell]; exact h.2⟩
theorem OutAt.step {gg cap1 : Nat} (h : OutAt w O ks c l k ov wr) (hq : Below wr.heap.size wr wq) {x y : Int} (hx : c k = x) (hy : l k = y)
    (hown : w1.ownsRow (O + 1) 132 2 (.slice (some ⟨gg, 0, none⟩) (k + 1) cap1) (k + 1) (flat c l k ++ [.int .i64 x, .int .i64 y]))
    (hg : wq.grownBy w1 ov.ownBlock) : Out w O ks c l (k + 1) (w1.setCell ⟨O, 0, none⟩ (.slice (some ⟨gg, 0, none⟩) (k + 1) cap1)) := by
  subst hx hy
  have hO := h.hO
  refine ⟨_, (h.cel hq hg (Nat.le_refl _) h.o0).put, ownsRow_setCell_below hown (by show O < O + 1; omega) _, fun x hx => ?_, ?_, hO⟩
  · obtain ⟨h1, h2⟩ := h.keep x hx
    refine ⟨h1, (h.cel hq hg (by omega) h2).set (by omega)⟩
  · have h2 : Below w.heap.size w wq := bl_trans h.bel hq
    refine ((h2.grown hg h2.size (fun j e => ?_))).setCell (by show w.heap.size ≤ O; omega) _
    have := (h.own.lt j e).1
    omega
theorem OutAt.frs (h : OutAt w O ks c l k ov wr) : ∃ A cap, ov = .slice A k cap ∧ Frs wr (O + 1) A k c l := frs_of_row h.own
end
end Go.Proofs.Ytafiikfaeomhpaa

namespace Go.Proofs.Ytafiikfaeomhpaa
open Go.ChangeShapes Go.WideShapes Go.ChangeAt Go.RowKit
open Go.Deep

/-- A slice of bytes: element i is y i. -/
def RdY (w : World) (B : Nat) (A : Option Addr) (n : Nat) (y : Nat → Int) : Prop :=
  0 < n → ∃ b off, A = some ⟨b, off, none⟩ ∧ b < B ∧ ∀ i, i < n → w.cell? ⟨b, off + i, none⟩ = some (.int .u8 (y i)) ∧ 0 ≤ y i ∧ y i ≤ 255
theorem RdY.more {w : World} {B B' : Nat} {A : Option Addr} {n : Nat} {y : Nat → Int} (h : RdY w B A n y) (hB : B ≤ B') : RdY w B' A n y := fun hn => by
  obtain ⟨b, off, e, hlt, hc⟩ := h hn
  exact ⟨b, off, e, by omega, hc⟩
theorem RdY.below {w w' : World} {B : Nat} {A : Option Addr} {n : Nat} {y : Nat → Int} (h : RdY w B A n y) (hb : Below B w w') : RdY w' B A n y := fun hn => by
  obtain ⟨b, off, e, hlt, hc⟩ := h hn
  exact ⟨b, off, e, hlt, fun i hi => ⟨(hb.cell (p := ⟨b, _, none⟩) hlt).trans (hc i hi).1, (hc i hi).2⟩⟩
theorem RdY.later {w w' : World} {A : Option Addr} {n : Nat} {y : Nat → Int} (h : RdY w w.heap.size A n y) (hb : Below w.heap.size w w') : RdY w' w'.heap.size A n y := (h.below hb).more hb.size

section
variable {H : Type} {enc : TypeId × Value → H} {W : World} {spare : Nat → Bool} {held : Bool}
theorem open_byteS {fuel : Nat} {u : Value} {x : DataW H × List MemPlace} (h : DataW.trod enc Try.prog W 0 spare held fuel 41 [u] = some x) (hs : ∀ b, spare b = true) :
    ∃ (A : Option Addr) (n cap : Nat) (v : Nat → Int), u = .slice A n cap ∧ n ≤ maxLen ∧ n ≤ cap ∧ RdY W W.heap.size A n v := by
  rcases open_slice1 Try.underlying41 (by kernel_rfl) h with ⟨hcs, _⟩ | ⟨a, len, cap, m, fu, V, D, Pl, hcs, _, hl, hm, hmm, _, hi⟩
  · simp at hcs
    exact ⟨none, 0, 0, fun _ => 0, hcs, by unfold maxLen; omega, Nat.le_refl _, fun h => absurd h (by omega)⟩
  · simp at hcs
    rw [hs, if_pos rfl] at hmm
    refine ⟨some a, len, cap, fun i => intOf (V i), hcs, Nat.le_trans hl hm, hl, fun hp => ?_⟩
    obtain ⟨b, off, spot⟩ := a
    have h0 := hi 0 (by omega)
    have hspot : spot = none := by simpa [Addr.add] using World.cell?_spot h0.1
    subst hspot
    refine ⟨b, off, rfl, ?_, fun i hin => ?_⟩
    · exact World.block_lt_of_cell? W _ (by simpa [Addr.add] using h0.1)
    · obtain ⟨g0, t0⟩ := hi i (by omega)
      obtain ⟨x0, e0, _, hwf⟩ := DataW.trod_int Try.underlying5 t0
      simp at e0
      rw [Go.WideShapes.add_plain] at g0
      refine ⟨g0.trans ?_, ?_⟩
      · show some (V i) = some (.int .u8 (intOf (V i)))
        rw [e0]
        rfl
      · show 0 ≤ intOf (V i) ∧ intOf (V i) ≤ 255
        rw [e0]
        simp only [Lit.wf, Bool.and_eq_true, decide_eq_true_eq] at hwf
        have h0 : IntKind.u8.min = 0 := by decide
        have h1 : IntKind.u8.max = 255 := by decide
        show 0 ≤ x0 ∧ x0 ≤ 255
        omega
end

/-- What existed stays, but for the block R. -/
def Gr (R : Nat) (w w' : World) : Prop := w.grownBy w' (some R)
section
variable {w w1 w2 wr wq W : World} {R K lo k n : Nat} {ov : Value}
theorem Gr.refl (R : Nat) (w : World) : Gr R w w := ⟨rfl, rfl, rfl, Nat.le_refl _, fun _ _ _ => rfl⟩
theorem Gr.trans (h : Gr R w w1) (h' : Gr R w1 w2) : Gr R w w2 :=
  ⟨h'.os.trans h.os, h'.tape.trans h.tape, h'.output.trans h.output, Nat.le_trans h.size h'.size, fun k hk hne => (h'.block k (Nat.lt_of_lt_of_le hk h.size) hne).trans (h.block k hk hne)⟩
theorem Gr.bel (h : Gr R w w1) (hb : Below w1.heap.size w1 w2) : Gr R w w2 :=
  ⟨hb.os.trans h.os, hb.tape.trans h.tape, hb.output.trans h.output, Nat.le_trans h.size hb.size, fun k hk hne => (hb.block k (Nat.lt_of_lt_of_le hk h.size)).trans (h.block k hk hne)⟩
theorem Gr.of (hb : Below w.heap.size w w1) : Gr R w w1 := (Gr.refl R w).bel hb
theorem Gr.set (h : Gr R w w1) {p : Addr} (hp : p.block = R ∨ w.heap.size ≤ p.block) (u : Value) : Gr R w (w1.setCell p u) :=
  ⟨h.os, h.tape, h.output, by simpa [World.setCell] using h.size, fun k hk hne => (Below.heap_setCell w1 p u k (by
    rcases hp with rfl | hp
    · intro e; exact hne (by rw [e])
    · omega)).trans (h.block k hk hne)⟩
theorem Gr.grow (h : Gr R w w1) (hg : w1.grownBy w2 ov.ownBlock) (hw : ∀ j, ov.ownBlock = some j → w.heap.size ≤ j) : Gr R w w2 :=
  ⟨hg.os.trans h.os, hg.tape.trans h.tape, hg.output.trans h.output, Nat.le_trans h.size hg.size, fun k hk hne => (hg.block k (Nat.lt_of_lt_of_le hk h.size) (fun e => by have := hw k e.symm; omega)).trans (h.block k hk hne)⟩
theorem Gr.cel (h : Gr R w w1) {j o : Nat} {v : Value} (hc : Cel w j o v) (hne : j ≠ R) : Cel w1 j o v :=
  ⟨(World.cell?_of_block (h.block j (World.block_lt_of_cell? w ⟨j, o, none⟩ hc.1) (by intro e; cases e; exact hne rfl))).trans hc.1,
   (World.frozen?_of_block (a := ⟨j, o, none⟩) (h.block j (World.block_lt_of_cell? w ⟨j, o, none⟩ hc.1) (by intro e; cases e; exact hne rfl))).trans hc.2⟩
theorem Gr.below (h : Gr R w w1) : Below R w w1 ∨ w.heap.size < R := by
  rcases Nat.lt_or_ge w.heap.size R with hlt | hge
  · exact .inr hlt
  · exact .inl ⟨h.os, h.tape, h.output, h.size, fun k hk => h.block k (by omega) (by intro e; cases e; omega)⟩

/-- The reader of a draw: its bytes lie below it; it has been asked at most K times. -/
def Rdr (w : World) (R K : Nat) : Prop := ∃ A nb cap p y, Cel w R 0 (.slice A nb cap) ∧ Cel w R 1 (.int .i64 (p : Nat)) ∧ p ≤ K ∧ nb ≤ 2000 ∧ RdY w R A nb y
theorem Rdr.lt (h : Rdr w R K) : R < w.heap.size := by
  obtain ⟨A, nb, cap, p, y, h0, _⟩ := h
  exact World.block_lt_of_cell? w ⟨R, 0, none⟩ h0.1
theorem Rdr.at_ (h : Rdr w R K) (hb : ∀ j, j ≤ R → w1.heap[j]? = w.heap[j]?) : Rdr w1 R K := by
  obtain ⟨A, nb, cap, p, y, h0, h1, h2, h3, h4⟩ := h
  refine ⟨A, nb, cap, p, y, ⟨(World.cell?_of_block (a := ⟨R, 0, none⟩) (hb R (Nat.le_refl _))).trans h0.1, (World.frozen?_of_block (a := ⟨R, 0, none⟩) (hb R (Nat.le_refl _))).trans h0.2⟩, ⟨(World.cell?_of_block (a := ⟨R, 1, none⟩) (hb R (Nat.le_refl _))).trans h1.1, (World.frozen?_of_block (a := ⟨R, 1, none⟩) (hb R (Nat.le_refl _))).trans h1.2⟩, h2, h3, fun hn => ?_⟩
  obtain ⟨b, off, e, hlt, hc⟩ := h4 hn
  exact ⟨b, off, e, hlt, fun i hi => ⟨(World.cell?_of_block (a := ⟨b, off + i, none⟩) (hb b (by omega))).trans (hc i hi).1, (hc i hi).2⟩⟩
theorem Rdr.bel (h : Rdr w R K) (hb : Below w.heap.size w w1) : Rdr w1 R K := h.at_ fun j hj => hb.block j (by have := h.lt; omega)
theorem Rdr.set (h : Rdr w R K) {p : Addr} (hp : R < p.block) (u : Value) : Rdr (w.setCell p u) R K := h.at_ fun j hj => Below.heap_setCell w p u j (by omega)
theorem Rdr.grow (h : Rdr w R K) (hg : w.grownBy w1 ov.ownBlock) (hw : ∀ j, ov.ownBlock = some j → R < j) : Rdr w1 R K := h.at_ fun j hj => hg.block j (by have := h.lt; omega) (fun e => by have := hw j e.symm; omega)
theorem Rdr.more {K' : Nat} (h : Rdr w R K) (hK : K ≤ K') : Rdr w R K' := by
  obtain ⟨A, nb, cap, p, y, h0, h1, h2, h3, h4⟩ := h
  exact ⟨A, nb, cap, p, y, h0, h1, by omega, h3, h4⟩

/-- A slice of k elements of s cells each, all of them ints, that the draw has made in a block from lo on. -/
def TS (w : World) (lo : Nat) (T : TypeId) (s : Nat) (ov : Value) (k : Nat) : Prop := ∃ xs : List Value, w.ownsRow lo T s ov k xs ∧ xs.length = k * s ∧ ∀ u ∈ xs, ∃ z, u = .int .i64 z
variable {T : TypeId} {s : Nat}
theorem TS.nil (w : World) (lo : Nat) (T : TypeId) (s : Nat) : TS w lo T s (.slice none 0 0) 0 := ⟨[], World.ownsRow_nil _ _ _ _, by simp, fun u hu => by cases hu⟩
theorem TS.bel (h : TS w lo T s ov k) (hb : Below w.heap.size w w1) : TS w1 lo T s ov k := by
  obtain ⟨xs, h0, h1, h2⟩ := h
  exact ⟨xs, row_below' h0 hb, h1, h2⟩
theorem TS.gr (h : TS w lo T s ov k) (hg : Gr R w w1) (hR : R < lo) : TS w1 lo T s ov k := by
  obtain ⟨xs, h0, h1, h2⟩ := h
  refine ⟨xs, h0.kept hg ?_, h1, h2⟩
  cases e : ov.ownBlock with
  | none => exact .inl rfl
  | some j =>
    right
    intro e'
    cases e'
    have := (h0.lt _ e).1
    omega
theorem TS.set_ (h : TS w lo T s ov k) {p : Addr} (hp : p.block < lo) (u : Value) : TS (w.setCell p u) lo T s ov k := by
  obtain ⟨xs, h0, h1, h2⟩ := h
  exact ⟨xs, ownsRow_setCell_below h0 hp _, h1, h2⟩
theorem TS.lt (h : TS w lo T s ov k) : ∀ j, ov.ownBlock = some j → lo ≤ j := fun j e => by
  obtain ⟨xs, h0, h1, h2⟩ := h
  exact (h0.lt j e).1
/-- Such a slice is a slice of terms that reads. -/
theorem TS.terms (h : TS w lo 132 2 ov k) : ∃ A cap c l, ov = .slice A k cap ∧ Frs w lo A k c l ∧ (A = none → cap = 0) := by
  obtain ⟨xs, h0, h1, h2⟩ := h
  rcases h0.2 with ⟨hov, hk⟩ | ⟨g, cap, cur, hov, hg, hh, hnc, _, hsz, htk⟩
  · subst hk
    exact ⟨none, 0, fun _ => 0, fun _ => 0, hov, .inl rfl, fun _ => rfl⟩
  · refine ⟨_, cap, fun i => intOf (xs.getD (i * 2) undef), fun i => intOf (xs.getD (i * 2 + 1) undef), hov, .inr ⟨g, rfl, hg, cur, hh, by omega, fun i hi => ?_⟩, fun h => by cases h⟩
    have key : ∀ j, j < k * 2 → cur[j]? = some (.int .i64 (intOf (xs.getD j undef))) := fun j hj => by
      have hx : xs[j]? = some (xs[j]'(by omega)) := List.getElem?_eq_getElem (by omega)
      obtain ⟨z, hz⟩ := h2 (xs[j]'(by omega)) (List.getElem_mem _)
      have hd : xs.getD j undef = .int .i64 z := by rw [List.getD_eq_getElem?_getD, hx, hz]; rfl
      rw [hd]
      have hx' := hx
      rw [hz, ← htk, List.getElem?_take_of_lt (by omega)] at hx'
      have h3 : cur[j]? = some (.int .i64 z) := by simpa using hx'
      exact h3
    exact ⟨key _ (by omega), key _ (by omega)⟩
/-- Such a slice is a slice of ints that reads. -/
theorem TS.ints (h : TS w lo T 1 ov k) : ∃ A cap v, ov = .slice A k cap ∧ FrI w lo T A k v := by
  obtain ⟨xs, h0, h1, h2⟩ := h
  rcases h0.2 with ⟨hov, hk⟩ | ⟨g, cap, cur, hov, hg, hh, hnc, _, hsz, htk⟩
  · subst hk
    exact ⟨none, 0, fun _ => 0, hov, .inl rfl⟩
  · refine ⟨_, cap, fun i => intOf (xs.getD i undef), hov, .inr ⟨g, rfl, hg, cur, hh, by omega, fun i hi => ?_⟩⟩
    have hx : xs[i]? = some (xs[i]'(by omega)) := List.getElem?_eq_getElem (by omega)
    obtain ⟨z, hz⟩ := h2 (xs[i]'(by omega)) (List.getElem_mem _)
    have hd : xs.getD i undef = .int .i64 z := by rw [List.getD_eq_getElem?_getD, hx, hz]; rfl
    show cur[i]? = some (.int .i64 (intOf (xs.getD i undef)))
    rw [hd]
    rw [hz, ← htk, List.getElem?_take_of_lt (by omega)] at hx
    have h3 : cur[i]? = some (.int .i64 z) := by simpa using hx
    exact h3
end
end Go.Proofs.Ytafiikfaeomhpaa

namespace Go.Proofs.Ytafiikfaeomhpaa
open Go.ChangeShapes Go.WideShapes Go.ChangeAt Go.RowKit

set_option maxRecDepth 100000 in
set_option maxHeartbeats 800000 in
theorem open_any (A : Option Addr) (n cap : Nat) (y : Nat → Int) (w : World) (hm : n ≤ maxLen) (hcap : n ≤ cap) (hr : RdY w w.heap.size A n y) :
    Calls Try.prog 50 #[.slice A n cap] w fun e w' => e = .returned (.pointer (some ⟨w.heap.size, 0, none⟩)) ∧ Below w.heap.size w w' ∧ Rdr w' w.heap.size 0 ∧ w.heap.size < w'.heap.size := by
  unfold maxLen at hm
  have HR := Lib.hid hr
  by_cases h : n ≤ 2000
  · go_enter Try.func50, Try.ntmps50
    go_wp2
    go_ret
    refine ⟨rfl, bl_alloc (Below.refl _ _) _, ⟨A, n, cap, 0, y, ⟨by go_simp, by go_simp⟩, ⟨by go_simp, by go_simp⟩, Nat.le_refl _, h, (HR.out.below (bl_alloc (Below.refl _ _) _))⟩, by simp⟩
  · have h20 : (2000 : Int) ≤ (cap : Int) := by omega
    go_enter Try.func50, Try.ntmps50
    go_wp2
    go_ret
    refine ⟨rfl, bl_alloc (Below.refl _ _) _, ⟨A, 2000, cap, 0, y, ⟨by go_simp, by go_simp⟩, ⟨by go_simp, by go_simp⟩, Nat.le_refl _, Nat.le_refl _, ?_⟩, by simp⟩
    intro hn
    obtain ⟨b, off, e, hlt, hc⟩ := (HR.out.below (bl_alloc (Below.refl w.heap.size w) _)) (by omega)
    exact ⟨b, off, e, hlt, fun i hi => hc i (by omega)⟩

/-- What a question to the reader leaves. -/
def PRes (w : World) (R K : Nat) (n : Int) (e : Ending) (w' : World) : Prop := ∃ x : Int, e = .returned (.int .i64 x) ∧ 0 ≤ x ∧ (x = 0 ∨ x < n) ∧ Gr R w w' ∧ Rdr w' R (K + 1)

theorem xor_bd (a b : Int) (h0 : 0 ≤ a) (h1 : a < 4611686018427387904) (h2 : 0 ≤ b) (h3 : b < 4611686018427387904) : 0 ≤ bits .xor .i64 a b ∧ bits .xor .i64 a b < 4611686018427387904 := by
  obtain ⟨x, rfl⟩ := Int.eq_ofNat_of_zero_le h0
  obtain ⟨z, rfl⟩ := Int.eq_ofNat_of_zero_le h2
  have hx : x < 2 ^ 62 := by omega
  have hz : z < 2 ^ 62 := by omega
  have hlt : x ^^^ z < 2 ^ 62 := Nat.xor_lt_two_pow hx hz
  have e : bits .xor .i64 (x : Int) (z : Int) = ((x ^^^ z : Nat) : Int) := by
    have hb : ((BitVec.ofInt 64 (x : Int)) ^^^ (BitVec.ofInt 64 (z : Int))).toNat = x ^^^ z := by
      simp only [BitVec.toNat_xor, BitVec.ofInt_natCast, BitVec.toNat_ofNat]
      rw [Nat.mod_eq_of_lt (by omega), Nat.mod_eq_of_lt (by omega)]
    show IntKind.i64.wrap ((((BitVec.ofInt 64 (x : Int)) ^^^ (BitVec.ofInt 64 (z : Int))).toNat : Nat) : Int) = _
    rw [hb]
    exact IntWalk.i64_in _ (by omega)
  rw [e]
  omega
end Go.Proofs.Ytafiikfaeomhpaa

namespace Go.Proofs.Ytafiikfaeomhpaa
open Go.ChangeShapes Go.WideShapes Go.ChangeAt Go.RowKit

theorem emod_bd (a n : Int) (hn : 1 ≤ n) : 0 ≤ a % n ∧ a % n < n := ⟨Int.emod_nonneg _ (by omega), Int.emod_lt_of_pos _ (by omega)⟩
theorem tmod_bd (a n : Int) (h0 : 0 ≤ a) (hn : 1 ≤ n) : 0 ≤ a.tmod n ∧ a.tmod n < n := by
  rw [Int.tmod_eq_emod_of_nonneg h0]
  exact emod_bd a n hn

theorem rdr_next {w : World} {R K : Nat} {A : Option Addr} {nb cap p : Nat} {y : Nat → Int} (h0 : Cel w R 0 (.slice A nb cap)) (h1 : Cel w R 1 (.int .i64 (p : Nat))) (hp : p ≤ K) (hnb : nb ≤ 2000) (hy : RdY w R A nb y) :
    Rdr (w.setCell ⟨R, 1, none⟩ (.int .i64 ((p : Int) + 1))) R (K + 1) ∧ Gr R w (w.setCell ⟨R, 1, none⟩ (.int .i64 ((p : Int) + 1))) := by
  refine ⟨⟨A, nb, cap, p + 1, y, h0.set (by omega), ?_, by omega, hnb, fun hn => ?_⟩, (Gr.refl R w).set (.inl rfl) _⟩
  · have := h1.put (u := .int .i64 ((p : Int) + 1))
    simpa using this
  · obtain ⟨b, off, e, hlt, hc⟩ := hy hn
    exact ⟨b, off, e, hlt, fun i hi => ⟨(World.cell?_setCell_other _ _ _ _ (fun e => by injection e with e1; omega)).trans (hc i hi).1, (hc i hi).2⟩⟩

set_option maxRecDepth 100000 in
set_option maxHeartbeats 3200000 in
theorem pick_any (R K : Nat) (n : Int) (w : World) (hK : K ≤ 1000000) (h : Rdr w R K) :
    Calls Try.prog 59 #[.pointer (some ⟨R, 0, none⟩), .int .i64 n] w (PRes w R K n) := by
  obtain ⟨A, nb, cap, p, y, k0, k1, hp, hnb, hy⟩ := h
  obtain ⟨hR, hG⟩ := rdr_next k0 k1 hp hnb hy
  have HR := Lib.hid hR
  have HG := Lib.hid hG
  obtain ⟨c0, f0⟩ := k0
  obtain ⟨c1, f1⟩ := k1
  have HY := Lib.hid hy
  clear hR hG hy
  by_cases hn : n < 1
  · go_enter Try.func59, Try.ntmps59
    go_wp2
    go_ret
    exact ⟨0, rfl, Int.le_refl _, .inl rfl, HG.out, HR.out⟩
  · by_cases h0 : nb = 0
    · subst h0
      go_enter Try.func59, Try.ntmps59
      go_wp2
      go_ret
      exact ⟨0, rfl, Int.le_refl _, .inl rfl, HG.out, HR.out⟩
    · have hnb0 : ((nb : Int) == 0) = false := by rw [beq_eq_false_iff_ne]; omega
      obtain ⟨b, off, rfl, hbR, hc⟩ := HY.out (by omega)
      by_cases hlt : p < nb
      · obtain ⟨hc1, hy0, hy1⟩ := hc p hlt
        have hm := emod_bd (y p) n (by omega)
        have Hm := Lib.hid hm
        clear hc hm
        go_enter Try.func59, Try.ntmps59
        go_wp2
        go_ret
        exact ⟨y p % n, rfl, Hm.out.1, .inr Hm.out.2, HG.out, HR.out⟩
      · obtain ⟨q1, e1, l1⟩ : ∃ q : Nat, Int.tmod (p : Int) (nb : Int) = (q : Int) ∧ q < nb := ⟨p % nb, by rw [Int.tmod_eq_emod_of_nonneg (by omega)]; simp, Nat.mod_lt _ (by omega)⟩
        obtain ⟨q2, e2, l2⟩ : ∃ q : Nat, Int.tmod ((p : Int) * 7 + 3) (nb : Int) = (q : Int) ∧ q < nb := ⟨(p * 7 + 3) % nb, by rw [Int.tmod_eq_emod_of_nonneg (by omega)]; simp, Nat.mod_lt _ (by omega)⟩
        obtain ⟨q3, e3, l3⟩ : ∃ q : Nat, Int.tdiv (p : Int) (nb : Int) = (q : Int) ∧ q ≤ p := ⟨p / nb, by rw [Int.tdiv_eq_ediv_of_nonneg (by omega)]; simp, Nat.div_le_self _ _⟩
        obtain ⟨hc1, ha0, ha1⟩ := hc q1 l1
        obtain ⟨hc2, hb0, hb1⟩ := hc q2 l2
        have Hc := Lib.hid hc
        clear hc
        go_enter Try.func59, Try.ntmps59
        go_upto_region 7 with fail
        have hw1 : IntKind.i64.wrap ((p : Int) * 7) = (p : Int) * 7 := IntWalk.i64_in _ (by omega)
        have hw2 : IntKind.i64.wrap ((p : Int) * 7 + 3) = (p : Int) * 7 + 3 := IntWalk.i64_in _ (by omega)
        have hw3 : IntKind.i64.wrap (y q1) = y q1 := IntWalk.i64_in _ (by omega)
        have hw4 : IntKind.i64.wrap (y q2) = y q2 := IntWalk.i64_in _ (by omega)
        have hw5 : IntKind.i64.wrap (y q1 * 131) = y q1 * 131 := IntWalk.i64_in _ (by omega)
        have hw6 : IntKind.i64.wrap (y q2 * 1117) = y q2 * 1117 := IntWalk.i64_in _ (by omega)
        have hw7 : IntKind.i64.wrap (y q1 * 131 + y q2 * 1117) = y q1 * 131 + y q2 * 1117 := IntWalk.i64_in _ (by omega)
        have hw8 : IntKind.i64.wrap ((p : Int) * 29) = (p : Int) * 29 := IntWalk.i64_in _ (by omega)
        have hw9 : IntKind.i64.wrap (y q1 * 131 + y q2 * 1117 + (p : Int) * 29) = y q1 * 131 + y q2 * 1117 + (p : Int) * 29 := IntWalk.i64_in _ (by omega)
        have hw10 : IntKind.i64.wrap ((q3 : Int) * 53) = (q3 : Int) * 53 := IntWalk.i64_in _ (by omega)
        have hw11 : IntKind.i64.wrap (q3 : Int) = (q3 : Int) := IntWalk.i64_in _ (by omega)
        have hw12 : IntKind.i64.wrap (y q1 * 131 + y q2 * 1117 + (p : Int) * 29 + (q3 : Int) * 53) = y q1 * 131 + y q2 * 1117 + (p : Int) * 29 + (q3 : Int) * 53 := IntWalk.i64_in _ (by omega)
        go_quiet (fail)
        have hX0 : 0 ≤ y q1 * 131 + y q2 * 1117 + (p : Int) * 29 + (q3 : Int) * 53 := by omega
        have hX1 : y q1 * 131 + y q2 * 1117 + (p : Int) * 29 + (q3 : Int) * 53 < 4611686018427387904 := by omega
        clear hw1 hw2 hw3 hw4 hw5 hw6 hw7 hw8 hw9 hw10 hw11 hw12
        generalize y q1 * 131 + y q2 * 1117 + (p : Int) * 29 + (q3 : Int) * 53 = X at *
        clear hc1 hc2 e1 e2 e3
        have hx := xor_bd X (X / 64) hX0 hX1 (by omega) (by omega)
        have hm := emod_bd (bits .xor .i64 X (X / 64)) n (by omega)
        have Hm := Lib.hid hm
        obtain ⟨hx0, hx1⟩ := hx
        clear hm
        go_wp2
        go_ret
        exact ⟨bits .xor .i64 X (X / 64) % n, rfl, Hm.out.1, .inr Hm.out.2, HG.out.bel (bl_drewN (Below.refl _ _) _), HR.out.bel (bl_drewN (Below.refl _ _) _)⟩
end Go.Proofs.Ytafiikfaeomhpaa

namespace Go.Proofs.Ytafiikfaeomhpaa
open Go.ChangeShapes Go.WideShapes Go.ChangeAt Go.RowKit

/-- What the draw of a listed number leaves. -/
def NRes (w : World) (R K : Nat) (cs : Array Value) (e : Ending) (w' : World) : Prop := ∃ z : Int, e = .returned (.int .i64 z) ∧ Value.int .i64 z ∈ cs.toList ∧ Gr R w w' ∧ Rdr w' R (K + 1)
theorem lit_all (L : List Int) : ∀ u ∈ L.map vI, ∃ z, u = .int .i64 z := fun u hu => by
  obtain ⟨z, _, rfl⟩ := List.mem_map.1 hu
  exact ⟨z, rfl⟩

set_option maxRecDepth 100000 in
set_option maxHeartbeats 800000 in
theorem num_any (R K b n : Nat) (cs : Array Value) (T : TypeId) (w : World) (hK : K ≤ 1000000) (h : Rdr w R K) (hb : b ≠ R) (hh : w.heap[b]? = some (.cells cs T (0, 0))) (hn : cs.size = n) (h0 : 0 < n) (hm : n ≤ 1000) (hall : ∀ u ∈ cs.toList, ∃ z, u = .int .i64 z) :
    Calls Try.prog 84 #[.pointer (some ⟨R, 0, none⟩), .slice (some ⟨b, 0, none⟩) n n] w (NRes w R K cs) := by
  have hblt : b < w.heap.size := by
    rcases Nat.lt_or_ge b w.heap.size with hlt | hge
    · exact hlt
    · rw [Array.getElem?_eq_none hge] at hh; cases hh
  have Hp := Lib.hid (pick_any R K (n : Int) w hK h)
  have HH := Lib.hid hh
  have HA := Lib.hid hall
  clear hh hall h
  go_enter Try.func84, Try.ntmps84
  go_wp2_with fail
  refine Hp.out.mono ?_
  rintro e w1 ⟨x, rfl, hx0, hx1, hg, hr⟩
  obtain ⟨i, rfl⟩ := Int.eq_ofNat_of_zero_le hx0
  have hi : i < n := by omega
  have hci : cs[i]? = some (cs[i]'(by omega)) := Array.getElem?_eq_getElem (by omega)
  obtain ⟨z, hz⟩ := HA.out (cs[i]'(by omega)) (by simp)
  rw [hz] at hci
  have hh1 : w1.heap[b]? = some (.cells cs T (0, 0)) := (hg.block b hblt (by intro e; cases e; exact hb rfl)).trans HH.out
  have hc1 : w1.cell? ⟨b, i, none⟩ = some (.int .i64 z) := (cell_of_row w1 b _ cs _ _ hh1).trans hci
  have Hmem := Lib.hid (show Value.int .i64 z ∈ cs.toList from by rw [← hz]; simp)
  have HG := Lib.hid hg
  have HR := Lib.hid hr
  clear hci hz hh1 hg hr hx0 hx1
  go_wp2
  go_ret
  exact ⟨z, rfl, Hmem.out, HG.out, HR.out⟩

section
variable {w wr wq W : World} {R lo k : Nat} {ov : Value} {T : TypeId}
set_option maxRecDepth 100000 in
set_option maxHeartbeats 800000 in
/-- The append of one int to a slice that the draw has made. -/
theorem wp_ts1 {o : Oper} {a : Act} {K : Act → World → Prop} {Q : Exit → Act → World → Prop} (s x : Operand) (t : TypeId)
    (ho : o.op = .call { callee := .builtin .append, args := #[s, x], argTypes := #[t, t] }) (ht : Try.prog.underlying t = some (.slice T))
    (hinf : (Try.prog.info? T).map (fun i => (i.zero, i.size, i.bytes)) = some (some (.int .i64 0), 1, 8))
    (h : TS W lo T 1 ov k) (hlo : lo ≤ W.heap.size) (hs : a.eval s = ov) {H : Nat} (hx : a.eval x = .slice (some ⟨H, 0, none⟩) 1 1) {X : Int} {T' : TypeId} (hnew : W.heap[H]? = some (.cells #[.int .i64 X] T' (0, 0))) (hk : k ≤ 1048576)
    (hK : ∀ g cap w', TS w' lo T 1 (.slice (some ⟨g, 0, none⟩) (k + 1) cap) (k + 1) → W.grownBy w' ov.ownBlock → K (a.put o.dst (.slice (some ⟨g, 0, none⟩) (k + 1) cap)) w') :
    o.wp Try.prog a W K Q := by
  obtain ⟨i0, hi, hz0, hz1, hz2⟩ := info_parts hinf
  obtain ⟨xs, h0, h1, h2⟩ := h
  refine wp_append_lies _ s x t ho lo T i0 _ 1 8 ht hi hz0 hz1 hz2 rfl (by omega) ov k _ hs h0 ⟨H, 0, none⟩ 1 1 [.int .i64 X] hx (by rfl)
    (World.news_of_block hnew) (by simp [Value.oneCell']) (by omega) (by unfold maxLen; omega) (by omega) hlo W.heap.size rfl ?_
  intro g cap w' hown hg _ _
  refine hK g cap w' ⟨_, hown, by simp; omega, fun u hu => ?_⟩ hg
  rcases List.mem_append.1 hu with hu | hu
  · exact h2 u hu
  · exact ⟨X, by simpa using hu⟩
/-- An empty slice that has just been made. -/
theorem ts_lit (W : World) (T : TypeId) (s : Nat) : TS (W.alloc (.cells #[] T)) W.heap.size T s (.slice (some ⟨W.heap.size, 0, none⟩) 0 0) 0 :=
  ⟨[], by simpa using World.ownsRow_lit W #[] 0 (Nat.le_refl _) (by unfold maxLen; omega) (by simp), by simp, fun u hu => by cases hu⟩
end
end Go.Proofs.Ytafiikfaeomhpaa

namespace Go.Proofs.Ytafiikfaeomhpaa
open Go.ChangeShapes Go.WideShapes Go.ChangeAt Go.RowKit

section
variable {w w1 : World} {lo k s g cap : Nat} {T : TypeId} {ov : Value}
theorem TS.open (h : TS w lo T s ov k) (hk : 0 < k) : ∃ g cap, ov = .slice (some ⟨g, 0, none⟩) k cap ∧ k ≤ cap ∧ lo ≤ g ∧ g < w.heap.size ∧ (∀ j, j < k * s → ∃ u, w.cell? ⟨g, j, none⟩ = some u) ∧ ∀ j, w.frozen? ⟨g, j, none⟩ = false := by
  obtain ⟨xs, h0, h1, h2⟩ := h
  rcases h0.2 with ⟨_, h3⟩ | ⟨g, cap, cur, hov, hg, hh, hnc, _, hsz, htk⟩
  · omega
  · have hks : k * s ≤ cur.size := by rw [hsz]; exact Nat.mul_le_mul_right _ hnc
    refine ⟨g, cap, hov, hnc, hg, ?_, fun j hj => ⟨cur[j]'(by omega), (cell_of_row w g _ cur _ _ hh).trans (Array.getElem?_eq_getElem (by omega))⟩, fun j => by simp [World.frozen?, hh]⟩
    rcases Nat.lt_or_ge g w.heap.size with hlt | hge
    · exact hlt
    · rw [Array.getElem?_eq_none hge] at hh; cases hh
theorem TS.store (h : TS w lo T s (.slice (some ⟨g, 0, none⟩) k cap) k) (j : Nat) (z : Int) : TS (w.setCell ⟨g, j, none⟩ (.int .i64 z)) lo T s (.slice (some ⟨g, 0, none⟩) k cap) k := by
  obtain ⟨xs, h0, h1, h2⟩ := h
  refine ⟨_, (h0.stored j (.int .i64 z)).1, by simp [h1], fun u hu => ?_⟩
  rcases List.mem_or_eq_of_mem_set hu with hu | rfl
  · exact h2 u hu
  · exact ⟨z, rfl⟩
theorem FrI.short {B n n' : Nat} {A : Option Addr} {v : Nat → Int} (h : FrI w B T A n v) (hn : n' ≤ n) : FrI w B T A n' v := by
  rcases h with h | ⟨G, e, hG, cs, hh, h1, h2⟩
  · exact .inl (by omega)
  · exact .inr ⟨G, e, hG, cs, hh, by omega, fun i hi => h2 i (by omega)⟩
end

/-- What the draw of a slice of ints leaves. -/
def IDr (w : World) (R K : Nat) (e : Ending) (w' : World) : Prop := ∃ A k cap v, e = .returned (.slice A k cap) ∧ k ≤ 12 ∧ FrI w' w.heap.size 3 A k v ∧ Gr R w w' ∧ Rdr w' R K

end Go.Proofs.Ytafiikfaeomhpaa

namespace Go.Proofs.Ytafiikfaeomhpaa
open Go.ChangeShapes Go.WideShapes Go.ChangeAt Go.RowKit

section
variable {w w1 wr wq W : World} {R lo k s : Nat} {ov : Value} {T : TypeId} {A : Option Addr}
theorem TS.lt2 (h : TS w lo T s ov k) : ∀ j, ov.ownBlock = some j → lo ≤ j ∧ j < w.heap.size := fun j e => by
  obtain ⟨xs, h0, h1, h2⟩ := h
  exact h0.lt j e
theorem TS.setne (h : TS w lo T s ov k) {p : Addr} (hp : ∀ j, ov.ownBlock = some j → j ≠ p.block) (u : Value) : TS (w.setCell p u) lo T s ov k := by
  obtain ⟨xs, h0, h1, h2⟩ := h
  refine ⟨xs, ⟨h0.1, ?_⟩, h1, h2⟩
  rcases h0.2 with hh | ⟨g, cap, cur, e1, hg, hh, hr⟩
  · exact .inl hh
  · exact .inr ⟨g, cap, cur, e1, hg, (Below.heap_setCell w p u g (hp g (by rw [e1]; rfl))).trans hh, hr⟩
theorem Cel.grow {j o : Nat} {v : Value} (hc : Cel w j o v) (hg : w.grownBy w1 ov.ownBlock) (hne : ∀ b, ov.ownBlock = some b → b ≠ j) : Cel w1 j o v := by
  have hlt : j < w.heap.size := World.block_lt_of_cell? w ⟨j, o, none⟩ hc.1
  have hx : some j ≠ ov.ownBlock := fun e => hne j e.symm rfl
  exact ⟨hg.cell (a := ⟨j, o, none⟩) hc.1 hx, (hg.frozen_far ⟨j, o, none⟩ hlt hx).trans hc.2⟩
set_option maxRecDepth 100000 in
set_option maxHeartbeats 800000 in
/-- The append of one term to a slice that the draw has made. -/
theorem wp_ts2 {o : Oper} {a : Act} {K : Act → World → Prop} {Q : Exit → Act → World → Prop} (s x : Operand)
    (ho : o.op = .call { callee := .builtin .append, args := #[s, x], argTypes := #[99, 99] })
    (h : TS W lo 132 2 ov k) (hlo : lo ≤ W.heap.size) (hs : a.eval s = ov) {H : Nat} (hx : a.eval x = .slice (some ⟨H, 0, none⟩) 1 1) {X Y : Int} (hnew : W.heap[H]? = some (.cells #[.int .i64 X, .int .i64 Y] 132 (0, 0))) (hk : k ≤ 1048576)
    (hK : ∀ g cap w', TS w' lo 132 2 (.slice (some ⟨g, 0, none⟩) (k + 1) cap) (k + 1) → W.grownBy w' ov.ownBlock → K (a.put o.dst (.slice (some ⟨g, 0, none⟩) (k + 1) cap)) w') :
    o.wp Try.prog a W K Q := by
  obtain ⟨i0, hi, hz0, hz1, hz2⟩ := info_parts Try.infoTerm
  obtain ⟨xs, h0, h1, h2⟩ := h
  refine wp_append_lies _ s x 99 ho lo 132 i0 _ 2 16 Try.underlying99 hi hz0 hz1 hz2 rfl (by omega) ov k _ hs h0 ⟨H, 0, none⟩ 1 1 [.int .i64 X, .int .i64 Y] hx (by rfl)
    (World.news_of_block hnew) (by simp [Value.oneCell']) (by omega) (by unfold maxLen; omega) (by omega) hlo W.heap.size rfl ?_
  intro g cap w' hown hg _ _
  refine hK g cap w' ⟨_, hown, by simp; omega, fun u hu => ?_⟩ hg
  rcases List.mem_append.1 hu with hu | hu
  · exact h2 u hu
  · simp only [List.mem_cons, List.not_mem_nil, or_false] at hu
    rcases hu with rfl | rfl
    · exact ⟨X, rfl⟩
    · exact ⟨Y, rfl⟩

/-- A slice of terms that the draw has made, whatever they are. -/
def FE (w : World) (lo : Nat) (A : Option Addr) (k : Nat) : Prop := ∃ c l, Frs w lo A k c l
theorem FE.bel (h : FE w lo A k) (hb : Below w.heap.size w w1) : FE w1 lo A k := by
  obtain ⟨c, l, h⟩ := h
  exact ⟨c, l, h.below hb⟩
theorem FE.gr (h : FE w lo A k) (hg : Gr R w w1) (hR : R < lo) : FE w1 lo A k := by
  obtain ⟨c, l, h⟩ := h
  rcases h with h | ⟨G, e, hG, h⟩
  · exact ⟨c, l, .inl h⟩
  · exact ⟨c, l, .inr ⟨G, e, hG, h.at_ (hg.block G h.lt (by intro e; cases e; omega))⟩⟩
theorem FE.set_ (h : FE w lo A k) {p : Addr} (hp : p.block < lo) (u : Value) : FE (w.setCell p u) lo A k := by
  obtain ⟨c, l, h⟩ := h
  rcases h with h | ⟨G, e, hG, h⟩
  · exact ⟨c, l, .inl h⟩
  · exact ⟨c, l, .inr ⟨G, e, hG, h.at_ (Below.heap_setCell w p u G (by omega))⟩⟩
theorem FE.more (h : FE w lo A k) {lo' : Nat} (hl : lo' ≤ lo) : FE w lo' A k := by
  obtain ⟨c, l, h⟩ := h
  exact ⟨c, l, h.more hl⟩
theorem FE.open (h : FE w lo A k) (hk : 0 < k) : ∃ G, A = some ⟨G, 0, none⟩ ∧ lo ≤ G ∧ G < w.heap.size ∧ (∀ j, j < k * 2 → ∃ u, w.cell? ⟨G, j, none⟩ = some u) ∧ ∀ j, w.frozen? ⟨G, j, none⟩ = false := by
  obtain ⟨c, l, h⟩ := h
  rcases h with h | ⟨G, e, hG, h⟩
  · omega
  · exact ⟨G, e, hG, h.lt, fun j hj => h.cell hj, fun j => h.frozen j⟩
theorem FE.store {G : Nat} (h : FE w lo (some ⟨G, 0, none⟩) k) (j : Nat) (z : Int) : FE (w.setCell ⟨G, j, none⟩ (.int .i64 z)) lo (some ⟨G, 0, none⟩) k := by
  obtain ⟨c, l, h⟩ := h
  rcases h with h | ⟨G', e, hG, cs, hh, h1, h2⟩
  · exact ⟨c, l, .inl h⟩
  · cases e
    refine ⟨fun i => if i * 2 = j then z else c i, fun i => if i * 2 + 1 = j then z else l i, .inr ⟨G, rfl, hG, cs.setIfInBounds j (.int .i64 z), by simp [World.setCell, Array.getElem?_modify, hh], by simp [h1], fun i hi => ?_⟩⟩
    obtain ⟨a, b⟩ := h2 i hi
    constructor
    · rw [Array.getElem?_setIfInBounds]
      by_cases e : j = i * 2
      · rw [if_pos e, if_pos (by omega)]
        simp [e]
      · rw [if_neg e, a]
        simp [show ¬ i * 2 = j by omega]
    · rw [Array.getElem?_setIfInBounds]
      by_cases e : j = i * 2 + 1
      · rw [if_pos e, if_pos (by omega)]
        simp [e]
      · rw [if_neg e, b]
        simp [show ¬ i * 2 + 1 = j by omega]
theorem TS.fe (h : TS w lo 132 2 ov k) : ∃ A cap, ov = .slice A k cap ∧ FE w lo A k := by
  obtain ⟨A, cap, c, l, e, h, _⟩ := h.terms
  exact ⟨A, cap, e, c, l, h⟩
end

/-- A slice that nothing lies behind has no room; none is longer than its room. -/
def CapOk (A : Option Addr) (k cap : Nat) : Prop := (A = none → cap = 0) ∧ k ≤ cap
theorem TS.capOk {w : World} {lo k cap : Nat} {A : Option Addr} (h : TS w lo 132 2 (.slice A k cap) k) : CapOk A k cap := by
  refine ⟨?_, ?_⟩
  · obtain ⟨_, _, _, _, e, _, h'⟩ := h.terms
    cases e
    exact h'
  · by_cases hk : 0 < k
    · obtain ⟨g, cap', e, hc, _⟩ := h.open hk
      cases e
      exact hc
    · omega

/-- What the draw of a constraint leaves: at most m terms, in new memory. -/
def CDr (w : World) (R K m : Nat) (e : Ending) (w' : World) : Prop := ∃ A k cap bd, e = .returned (.agg #[.slice A k cap, .int .i64 bd]) ∧ k ≤ m ∧ FE w' w.heap.size A k ∧ Gr R w w' ∧ Rdr w' R K ∧ CapOk A k cap

end Go.Proofs.Ytafiikfaeomhpaa

namespace Go.Proofs.Ytafiikfaeomhpaa
open Go.ChangeShapes Go.WideShapes Go.ChangeAt Go.RowKit

theorem alloc_at {W : World} {o : Obj} {H : Nat} (h : W.heap.size = H) : (W.alloc o).heap[H]? = some o := by subst h; exact heap_alloc_new W o
/-- The draw of a listed number, told from an earlier world. -/
theorem num_from {W Wc : World} (hbx : Below W.heap.size W Wc) (R K b n : Nat) (cs : Array Value) (T : TypeId) (hK : K ≤ 1000000) (h : Rdr W R K) (hb : b ≠ R) (hh : Wc.heap[b]? = some (.cells cs T (0, 0))) (hn : cs.size = n) (h0 : 0 < n) (hm : n ≤ 1000) (hall : ∀ u ∈ cs.toList, ∃ z, u = .int .i64 z) :
    Calls Try.prog 84 #[.pointer (some ⟨R, 0, none⟩), .slice (some ⟨b, 0, none⟩) n n] Wc (NRes W R K cs) :=
  (num_any R K b n cs T Wc hK (h.bel hbx) hb hh hn h0 hm hall).mono fun _ _ ⟨z, he, hm, hg, hr⟩ => ⟨z, he, hm, (Gr.of hbx).trans hg, hr⟩
theorem FE.setne {w : World} {lo G k : Nat} (h : FE w lo (some ⟨G, 0, none⟩) k) {p : Addr} (hp : p.block ≠ G) (u : Value) : FE (w.setCell p u) lo (some ⟨G, 0, none⟩) k := by
  obtain ⟨c, l, h⟩ := h
  rcases h with h | ⟨G', e, hG, h⟩
  · exact ⟨c, l, .inl h⟩
  · cases e
    exact ⟨c, l, .inr ⟨G, rfl, hG, h.at_ (Below.heap_setCell w p u G (fun e => hp e.symm))⟩⟩
theorem Cel.gr {w w1 : World} {R j o : Nat} {v : Value} (hc : Cel w j o v) (hg : Gr R w w1) (hne : j ≠ R) : Cel w1 j o v := hg.cel hc hne

end Go.Proofs.Ytafiikfaeomhpaa

