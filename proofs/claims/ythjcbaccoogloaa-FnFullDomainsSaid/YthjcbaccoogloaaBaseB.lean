/- Contracts of the copying and comparing helpers of the exact laws (no claim of its own). Conditions: as each theorem states. -/
import Derived.Test.YthjcbaccoogloaaBaseA
import Derived.Outline
import Derived.Laws.MakeOwn
import Derived.Laws.Rows
namespace Go.Proofs.Ythjcbaccoogloaa
open Go.ChangeShapes Go.WideShapes Go.ChangeAt Go.RowKit

theorem bl_alloc {a w : World} (h : Below a.heap.size a w) (o : Obj) : Below a.heap.size a (w.alloc o) := h.alloc h.size o
theorem bl_drewN {B : Nat} {a w : World} (h : Below B a w) (n : Nat) : Below B a (w.drewN n) := ⟨h.os, h.tape, h.output, h.size, h.block⟩
theorem bl_trans {a w w' : World} (h : Below a.heap.size a w) (k : Below w.heap.size w w') : Below a.heap.size a w' := h.trans (k.mono h.size)

/-- A slice of terms: element i has the coefficient c i and the literal l i. -/
def Rd (w : World) (B : Nat) (A : Option Addr) (n : Nat) (c l : Nat → Int) : Prop :=
  0 < n → ∃ b off, A = some ⟨b, off, none⟩ ∧ b < B ∧ ∀ i, i < n → w.cell? ⟨b, off + i * 2, none⟩ = some (.int .i64 (c i)) ∧ w.cell? ⟨b, off + i * 2 + 1, none⟩ = some (.int .i64 (l i))

theorem Rd.below {w w' : World} {B : Nat} {A : Option Addr} {n : Nat} {c l : Nat → Int} (h : Rd w B A n c l) (hb : Below B w w') : Rd w' B A n c l := fun hn => by
  obtain ⟨b, off, e, hlt, hc⟩ := h hn
  exact ⟨b, off, e, hlt, fun i hi => ⟨(hb.cell (p := ⟨b, _, none⟩) hlt).trans (hc i hi).1, (hb.cell (p := ⟨b, _, none⟩) hlt).trans (hc i hi).2⟩⟩
theorem Rd.more {w : World} {B B' : Nat} {A : Option Addr} {n : Nat} {c l : Nat → Int} (h : Rd w B A n c l) (hB : B ≤ B') : Rd w B' A n c l := fun hn => by
  obtain ⟨b, off, e, hlt, hc⟩ := h hn
  exact ⟨b, off, e, by omega, hc⟩

/-- Two terms are equal. -/
def teq (c l c' l' : Int) : Bool := c == c' && l == l'

end Go.Proofs.Ythjcbaccoogloaa
