/- Contracts of the marking and the asking helpers of the exact laws (no claim of its own). Conditions: as each theorem states. -/
import Derived.Test.YthjcbaccoogloaaComA
namespace Go.Proofs.Ythjcbaccoogloaa
open Go.ChangeShapes Go.WideShapes Go.ChangeAt Go.RowKit

/-- Only what A leads to may have turned, of what lay; the streams are as they were. -/
structure Only (w w' : World) (A : Option Addr) (n : Nat) : Prop where
  os : w'.os = w.os
  tape : w'.tape = w.tape
  output : w'.output = w.output
  size : w.heap.size ≤ w'.heap.size
  block : ∀ k, k < w.heap.size → (n = 0 ∨ ∀ a, A = some a → k ≠ a.block) → w'.heap[k]? = w.heap[k]?

theorem Only.refl (w : World) (A : Option Addr) (n : Nat) : Only w w A n := ⟨rfl, rfl, rfl, Nat.le_refl _, fun _ _ _ => rfl⟩
theorem Only.pre {w w1 w' : World} {A : Option Addr} {n : Nat} (hb : Below w.heap.size w w1) (h : Only w1 w' A n) : Only w w' A n :=
  ⟨h.os.trans hb.os, h.tape.trans hb.tape, h.output.trans hb.output, Nat.le_trans hb.size h.size, fun k hk hn => (h.block k (Nat.lt_of_lt_of_le hk hb.size) hn).trans (hb.block k hk)⟩

theorem Only.set_ {w wr : World} {G n : Nat} (h : Only w wr (some ⟨G, 0, none⟩) n) (hn : 0 < n) (o : Nat) (u : Value) : Only w (wr.setCell ⟨G, o, none⟩ u) (some ⟨G, 0, none⟩) n :=
  ⟨h.os, h.tape, h.output, by simpa [World.setCell] using h.size, fun k hk hne => by
    rcases hne with h0 | hne
    · omega
    · have hkG : k ≠ G := hne _ rfl
      exact (Below.heap_setCell wr ⟨G, o, none⟩ u k hkG).trans (h.block k hk (.inr hne))⟩
theorem add2 (k : Int) (j : Nat) : Value.int .i64 (k + 2 * (j : Int) + 1 + 1) = .int .i64 (k + 2 * ((j + 1 : Nat) : Int)) := by
  congr 1
  omega

/-- The numbers that the marking lays. -/
def mkC (k : Int) (i : Nat) : Int := k + 2 * i
def mkL (k : Int) (i : Nat) : Int := k + 2 * i + 1

theorem only_trans {w w1 w' : World} {A : Option Addr} {n : Nat} (h : Only w w1 A n) (hb : Below w1.heap.size w1 w') : Only w w' A n :=
  ⟨hb.os.trans h.os, hb.tape.trans h.tape, hb.output.trans h.output, Nat.le_trans h.size hb.size, fun k hk hn => (hb.block k (Nat.lt_of_lt_of_le hk h.size)).trans (h.block k hk hn)⟩

end Go.Proofs.Ythjcbaccoogloaa
