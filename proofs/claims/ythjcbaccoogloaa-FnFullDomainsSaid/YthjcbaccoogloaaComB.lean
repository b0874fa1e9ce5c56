/- What the exact laws of functions that answer a constraint and a Boolean carry from call to call (no claim of its own). Conditions: as each theorem states. -/
import Derived.Test.YthjcbaccoogloaaMarkB
namespace Go.Proofs.Ythjcbaccoogloaa
open Go.ChangeShapes Go.WideShapes Go.ChangeAt Go.RowKit

theorem kf {W w1 : World} (hb : Below W.heap.size W w1) {p : Addr} (hlt : p.block < W.heap.size) (h : W.frozen? p = false) : w1.frozen? p = false := (hb.frozen hlt).trans h

section
variable {w w' : World} {lo hi : Nat} {A A' : Option Addr} {n n' : Nat} {c l : Nat → Int}
end
end Go.Proofs.Ythjcbaccoogloaa
